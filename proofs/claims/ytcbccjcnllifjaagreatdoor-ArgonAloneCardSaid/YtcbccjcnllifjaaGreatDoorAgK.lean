/- What an arena counts, what Release clears; Release deferred, by their contracts. Conditions: those typed. By of package argon by its contract, whatever fills the grid. Conditions: those typed; blake's and blend's tables lie at their places. By where there is no tag, and Key of package argon, by their contracts. Conditions: those typed; blake's and blend's tables lie at their places. -/
import Derived.Test.YtcbccjcnllifjaaGreatDoorBm
import Derived.Defers
import Derived.Test.YtcbccjcnllifjaaGreatDoorAgC
import Derived.Test.YtcbccjcnllifjaaGreatDoorAgRun
import Derived.Test.YtcbccjcnllifjaaGreatDoorFlAll
namespace Go.Proofs.YtcbccjcnllifjaaGreatDoor
set_option maxRecDepth 50000
open Go.RowKit Bb
set_option maxHeartbeats 800000 in
theorem counts_any {w : World} {a B u h c : Nat} (hA : AreAt w a B u h c) : Calls Tryz.prog 33 #[.pointer (some ⟨a, 0, none⟩)] w fun e w' => e = .returned (.agg (ars B u h c)) ∧ Below w.heap.size w w' := by
  obtain ⟨x0, x1, x2, x3, f0, f1, f2, f3⟩ := hA.at_
  have hlt := RowAt.lt hA
  clear hA
  go_enter Tryz.func33, Tryz.ntmps33
  go_wp2
  refine bodyPost_ret (v := .agg (ars B u h c)) (results_cell_row rfl _ _ w.heap.size 70 (ars B u h c) (0, 0) _ rfl (RowAt.new _ _ _) Tryz.underlying70 rfl ars_size) rfl ⟨rfl, ?_⟩
  exact (Below.refl _ _).alloc (Nat.le_refl _) _
theorem used_any {w : World} {a B u h c : Nat} (hA : AreAt w a B u h c) : Calls Tryz.prog 17 #[.pointer (some ⟨a, 0, none⟩)] w fun e w' => e = .returned (.int .i64 (u : Int)) ∧ Below w.heap.size w w' := by
  have C := Lib.hid (counts_any hA)
  have hF := fun w => (field_int w B u h c).2.1
  clear hA
  go_enter Tryz.func17, Tryz.ntmps17
  go_wp2_with fail
  refine C.out.mono ?_; rintro e w1 ⟨rfl, hb⟩
  have HB := Lib.hid hb
  clear hb
  go_wp2
  go_ret
  exact ⟨rfl, HB.out⟩
theorem high_any {w : World} {a B u h c : Nat} (hA : AreAt w a B u h c) : Calls Tryz.prog 14 #[.pointer (some ⟨a, 0, none⟩)] w fun e w' => e = .returned (.int .i64 (h : Int)) ∧ Below w.heap.size w w' := by
  have C := Lib.hid (counts_any hA)
  have hF := fun w => (field_int w B u h c).2.2.1
  clear hA
  go_enter Tryz.func14, Tryz.ntmps14
  go_wp2_with fail
  refine C.out.mono ?_; rintro e w1 ⟨rfl, hb⟩
  have HB := Lib.hid hb
  clear hb
  go_wp2
  go_ret
  exact ⟨rfl, HB.out⟩
theorem zc_b : Tryz.zeroCells111 = wq zb := by kernel_rfl
theorem clear_blocks {w : World} {g : Nat} {l : List (List Nat)} (h : BlkAt w g l) (ho : ∀ b ∈ l, okb b) (ty : TypeId) :
    ∃ w', (Builtin.clear_ #[77] ty #[.slice (some ⟨g, 0, none⟩) l.length l.length]).run Tryz.prog w = .ok (.tuple #[]) w' ∧ BlkAt w' g (List.replicate l.length zb) ∧ Kept (fun k => k = g) w w' ∧ w'.heap.size = w.heap.size := by
  cases l with
  | nil =>
    refine ⟨w, ?_, h, Kept.refl _ _, rfl⟩
    simp [Builtin.clear_, run_underlying Tryz.underlying77]
  | cons b0 l0 =>
    have hl := bcs_length ho
    generalize hn : (b0 :: l0).length = n at *
    obtain ⟨m, rfl⟩ : ∃ m, n = m + 1 := ⟨n - 1, by simp at hn; omega⟩
    have hz : (Builtin.zeroCells (wq zb) (m + 1)).toList = bcs (List.replicate (m + 1) zb) := by
      rw [show bcs (List.replicate (m + 1) zb) = (bcs (List.replicate (m + 1) zb)).toArray.toList from rfl, ← made_b]
      unfold Builtin.zeroCells madeCells
      rw [wq_size]
      rfl
    have hst := run_storeCells_at Tryz.prog g 0 111 (bcs (List.replicate (m + 1) zb)) 0 (bcs (b0 :: l0)).toArray w h (by rw [bcs_zeros]; simp [hl]) (by rw [bcs_zeros]; intro v hv; rw [List.eq_of_mem_replicate hv]; rfl)
    rw [show (bcs (b0 :: l0)).toArray.toList.take (0 + 0) ++ bcs (List.replicate (m + 1) zb) ++ (bcs (b0 :: l0)).toArray.toList.drop (0 + 0 + (bcs (List.replicate (m + 1) zb)).length) = bcs (List.replicate (m + 1) zb) by
      rw [List.drop_of_length_le (by rw [bcs_zeros]; simp [hl])]; simp] at hst
    refine ⟨w.setRow g (bcs (List.replicate (m + 1) zb)).toArray, ?_, RowAt.setRow h _, ⟨rfl, rfl, rfl, Nat.le_of_eq (setRow_size _ _ _).symm, fun k hk hne => setRow_other _ _ _ _ hne⟩, setRow_size _ _ _⟩
    have hcl : (Value.agg (wq zb)).cells = wq zb := rfl
    simp [Builtin.clear_, run_underlying Tryz.underlying77, zc_b, hcl, hz, hst]
set_option maxHeartbeats 1600000 in
theorem arel_deferred {w : World} {a B u h c p g : Nat} {l : List (List Nat)} (hA : AreAt w a B u h c) (hP : LiveAt w p a g l) (hn : l.length ≤ u) (hu : u ≤ 4194304) (hc1 : 1 ≤ c) (hc : c ≤ 4194304) (u0 : FrameMode) :
    CallsD Tryz.prog 37 #[.pointer (some ⟨a, 0, none⟩), .pointer (some ⟨p, 0, none⟩)] u0 w fun e u' w' => u' = u0 ∧ e = .returned (.int .i64 0) ∧ OffAt w' p a l.length ∧ AreAt w' a B (u - l.length) h (c - 1) ∧ Kept (fun k => k = a ∨ k = p ∨ k = g) w w' := by
  obtain ⟨x0, x1, x2, x3, f0, f1, f2, f3⟩ := hP.row.at_
  have hpa : p ≠ a := RowAt.unlike hP.row hA (by rfl)
  have hpg : p ≠ g := RowAt.unlike hP.row hP.blk (by rfl)
  have hag : a ≠ g := RowAt.unlike hA hP.blk (by rfl)
  obtain ⟨w1, hcl, hB1, hK1, hs1⟩ : ∃ w1, (∀ ty, (Builtin.clear_ #[77] ty #[.slice (some ⟨g, 0, none⟩) l.length l.length]).run Tryz.prog w = .ok (.tuple #[]) w1) ∧ BlkAt w1 g (List.replicate l.length zb) ∧ Kept (fun k => k = g) w w1 ∧ w1.heap.size = w.heap.size := by
    obtain ⟨w1, h1, h2, h3, h4⟩ := clear_blocks hP.blk hP.ok 0
    exact ⟨w1, fun ty => by rw [← h1]; rfl, h2, h3, h4⟩
  have hP1 : PceAt w1 p a l.length true (.slice (some ⟨g, 0, none⟩) l.length l.length) := RowAt.kept hP.row hK1 hpg
  have hA1 : AreAt w1 a B u h c := RowAt.kept hA hK1 hag
  clear hA hP hB1
  obtain ⟨y0, y1, y2, y3, e0, e1, e2, e3⟩ := hP1.at_
  obtain ⟨z0, z1, z2, z3, b0, b1, b2, b3⟩ := hA1.at_
  obtain ⟨r, hr⟩ : ∃ r : Nat, (u : Int) - (l.length : Int) = r := ⟨u - l.length, by omega⟩
  obtain ⟨s, hs⟩ : ∃ s : Nat, (c : Int) - 1 = s := ⟨c - 1, by omega⟩
  have hw : IntKind.i64.wrap ((u : Int) - (l.length : Int)) = (r : Int) := by rw [IntKind.wrap_i64]; omega
  have hN := neq_same a
  have hw2 : IntKind.i64.wrap ((c : Int) - 1) = (s : Int) := by rw [IntKind.wrap_i64]; omega
  have HP := Lib.hid hP1
  have HA := Lib.hid hA1
  have HK := Lib.hid hK1
  have er : u - l.length = r := by omega
  have es : c - 1 = s := by omega
  rw [er, es]
  clear hP1 hA1 hK1 er es
  go_enter_d Tryz.func37, Tryz.ntmps37
  go_wp2
  generalize hw2 : World.setCell (World.setCell w1 _ _) _ _ = w2
  have hP2 : OffAt w2 p a l.length := by rw [← hw2]; exact (HP.out.setCell 2 _).setCell 3 _
  have hA2 : AreAt w2 a B u h c := by rw [← hw2]; exact (RowAt.setOther HA.out ⟨p, 2, none⟩ hpa _).setOther ⟨p, 3, none⟩ hpa _
  have hK2 : Kept (fun k => k = a ∨ k = p ∨ k = g) w w2 := by
    rw [← hw2]
    exact ((HK.out.mono fun _ _ e => .inr (.inr e)).set (p := ⟨p, 2, none⟩) (.inl (.inr (.inl rfl))) _).set (p := ⟨p, 3, none⟩) (.inl (.inr (.inl rfl))) _
  clear hw2 HP HA HK x0 x1 x2 x3 f0 f1 f2 f3 y0 y1 y2 y3 e0 e1 e2 e3 z0 z1 z2 z3 b0 b1 b2 b3 hcl hs1 hN
  obtain ⟨x0, x1, x2, x3, f0, f1, f2, f3⟩ := PceAt.at_ hP2
  obtain ⟨z0, z1, z2, z3, b0, b1, b2, b3⟩ := hA2.at_
  have HA := Lib.hid ((AreAt.setU (w := w2.drew) hA2 r).setC s)
  have HP := Lib.hid ((RowAt.setOther (RowAt.drew hP2) ⟨a, 1, none⟩ (Ne.symm hpa) (.int .i64 (r : Int))).setOther ⟨a, 3, none⟩ (Ne.symm hpa) (.int .i64 (s : Int)))
  have HK := Lib.hid ((hK2.drew.set (p := ⟨a, 1, none⟩) (.inl (.inl rfl)) (.int .i64 (r : Int))).set (p := ⟨a, 3, none⟩) (.inl (.inl rfl)) (.int .i64 (s : Int)))
  clear hA2 hP2 hK2
  go_region
  go_wp2
  go_ret
  exact ⟨rfl, HP.out, HA.out, HK.out⟩
end Go.Proofs.YtcbccjcnllifjaaGreatDoor
namespace Go.Proofs.YtcbccjcnllifjaaGreatDoor
set_option maxRecDepth 50000
open Go.RowKit Bb
def tgS (c l z : Nat) (L : List (List Nat)) : ByteArray := tx (longL z (tl (strOf (byB (xB (lastL c L l))))))
def byV (r : Int) (T : ByteArray) : Value := if r = 0 then .tuple #[.string T, .int .i64 0] else .tuple #[.string ⟨#[]⟩, .int .i64 r]
set_option maxHeartbeats 6400000 in
theorem by_any {w : World} {a B u h c N0 : Nat} (hA : AreAt w a B u h c) (hN1 : 0 < N0) (hN2 : TabN N0) (hNa : N0 ≤ a) (hQ : QAt w) (hT : TAt w)
    {al t l m b cc g z : Nat} (CO : ∀ w : World, Calls Tryz.prog 23 #[pav al t m l z] w fun e w' => e = .returned (.tuple #[spv al t l m b cc g z, .int .i64 0]) ∧ Below w.heap.size w w') (S : Sh al t l b cc g) (hm : m ≤ 4294967295) (hz4 : 4 ≤ z) (hz10 : z ≤ 1024)
    (s1 s2 s3 s4 HH : ByteArray) (hHH : HH.size = 64) (CH : ∀ w : World, QAt w → Calls Tryz.prog 7 #[pav al t m l z, inv s1 s2 s3 s4] w fun e w' => e = .returned (.tuple #[.string HH, .int .i64 0]) ∧ Below w.heap.size w w')
    (hun : u + b ≤ B) (hB : B ≤ 4194304) (hc : c < 4194304)
    {F : FuncId} (hE : ∀ (args : Array Value) (w : World), (callFunc F args).run Tryz.prog w = .ok (.enter F args) w) {r : Int} {L' : List (List Nat)} (hL' : L'.length = l * cc)
    (CF : ∀ (w : World) (q p G : Nat), GrAt w q p a G al t l m b cc g z (begTo HH cc (List.replicate b zb) l) → TAt w → N0 ≤ G → Calls Tryz.prog F #[.pointer (some ⟨q, 0, none⟩)] w fun e w' => e = .returned (.int .i64 r) ∧ GrAt w' q p a G al t l m b cc g z L' ∧ Kept (fun j => j = G) w w') :
    Calls Tryz.prog 20 #[.pointer (some ⟨a, 0, none⟩), pav al t m l z, inv s1 s2 s3 s4, .func (.func F) #[] #[]] w fun e w' => e = .returned (byV r (tgS cc l z L')) ∧ AreAt w' a B u (max h (u + b)) c ∧ Kept (fun j => j = a) w w' := by
  have haw : a < w.heap.size := RowAt.lt hA
  have hNw : N0 ≤ w.heap.size := by omega
  have KB : Hid (∀ wi, Kept (fun j => j = a) w wi → Below N0 w wi) := Lib.hid fun wi hk => hk.below hNw fun x e => by omega
  have HQT : Hid (∀ wi, Kept (fun j => j = a) w wi → QAt wi ∧ TAt wi) := Lib.hid fun wi hk => ⟨hQ.below (KB.out wi hk) hN1, hT.below (KB.out wi hk) hN2.1 hN2.2⟩
  have HS := Lib.hid S
  have hbl := S.bl
  have hl1 := S.l1
  have hlm := S.lm
  have hcm := S.cm
  have hcc : 8 ≤ cc := by have := S.cg; have := S.g2; omega
  have hgc : g ≤ cc := by have := S.cg; omega
  have hb1 : 8 ≤ b := by
    rw [hbl]
    exact Nat.le_trans hcc (Nat.le_mul_of_pos_left cc hl1)
  have htm := S.tm
  have hal : al ≤ 3 := by have := S.ha; omega
  have hN : ∀ x ∈ [al, t, l, m, b, cc, g, z], x ≤ 140737488351232 := by
    intro x hx
    simp only [List.mem_cons, List.not_mem_nil, or_false] at hx
    omega
  have C1 := Lib.hid (CH _ ((HQT.out w (Kept.refl _ _)).1.next (pin_rows al t m l z s1 s2 s3 s4 w).2.2))
  have C2 := Lib.hid CO
  have HA := Lib.hid hA
  have HE := hE
  have HCF := Lib.hid CF
  have HL' := Lib.hid hL'
  have HN := Lib.hid hN
  obtain ⟨hp, hi, hb⟩ := pin_rows al t m l z s1 s2 s3 s4 w
  have HP := Lib.hid hp
  have HI := Lib.hid hi
  have HBW := Lib.hid hb
  have HBL := Lib.hid hbl
  have HHH := Lib.hid hHH
  have hud : u + b - b = u := by omega
  have hcd : c + 1 - 1 = c := by omega
  clear hA hQ hT CO CH CF hp hi hb S hE hL' hN hbl hHH
  go_enter_defers Tryz.func20, Tryz.ntmps20
  go_wp2_with (first
    | refine wpList_load_want rfl 23 _ rfl _ _ rfl (pa_load HP.out) ?_
    | refine wpList_load_want rfl 25 _ rfl _ _ rfl (in_load HI.out) ?_)
  refine C1.out.mono ?_
  rintro e w1 ⟨rfl, hb⟩
  have HP1 := Lib.hid (HP.out.step hb)
  have HB1 := Lib.hid (below_step HBW.out hb)
  clear hb C1 HP HI HBW
  go_wp2_with (refine wpList_load_want rfl 23 _ rfl _ _ rfl (pa_load HP1.out) ?_)
  refine (C2.out _).mono ?_
  rintro e w2 ⟨rfl, hb⟩
  have HB2 := Lib.hid (below_step HB1.out hb)
  clear hb C2 HP1 HB1
  obtain ⟨w3, e3⟩ : ∃ w3, w3 = w2.alloc (.cells (spc al t l m b cc g z) 57) := ⟨_, rfl⟩
  have hR3 : RowAt w3 w2.heap.size 57 (spc al t l m b cc g z) := by rw [e3]; exact RowAt.new _ _ _
  have hB3 : Below w.heap.size w w3 := by rw [e3]; exact HB2.out.alloc HB2.out.size _
  have k4 := (sp_cells hR3).2.2.2.2.1
  have CA := Lib.hid (ares_any (RowAt.below HA.out hB3 haw) b hun hB (by omega))
  have HR3 := Lib.hid hR3
  have HB3 := Lib.hid hB3
  have E3 := Lib.hid e3
  have hsz2 := HB2.out.size
  have hw2 : a ≠ w2.heap.size := by omega
  have HNE := Lib.hid hw2
  clear hR3 hB3 e3 HB2 HA
  clear k4
  go_wp2_with fail
  rw [← E3.out]
  refine CA.out.mono ?_
  rintro e w4 ⟨⟨pc, G, rfl, hL, hpc, hG⟩, hA4, hK4⟩
  have HK4 : Hid (Kept (fun j => j = a) w w4) := Lib.hid ((Kept.of_below (M := fun j => j = a) HB3.out).trans hK4 fun _ _ e => e)
  have HR4 := Lib.hid (RowAt.kept HR3.out hK4 (Ne.symm HNE.out))
  have hs3 := HB3.out.size
  have hGw : w.heap.size ≤ G := Nat.le_trans hs3 hG
  have hpw : w.heap.size ≤ pc := Nat.le_trans hs3 hpc
  have HL := Lib.hid hL
  have HA4 := Lib.hid hA4
  have CN := Lib.hid (gnew_at hL.row HN.out (by omega) false (by rw [List.length_replicate]; simp))
  clear hL hA4 hK4 hpc hG HR3 HB3 E3 CA HNE hs3
  go_wp2_with (refine wpList_load_want rfl 57 _ rfl _ _ rfl (sp_load HR4.out) ?_)
  refine CN.out.mono ?_
  rintro e w5 ⟨he, hb5⟩
  obtain ⟨q, rfl, hq, hrow⟩ := he
  have HK5 : Hid (Kept (fun j => j = a) w w5) := Lib.hid (HK4.out.trans (Kept.of_below (M := fun _ => False) hb5) fun _ _ e => e.elim)
  have HG5 : Hid (GrAt w5 q pc a G al t l m b cc g z (List.replicate b zb)) := Lib.hid ⟨hrow, HL.out.step hb5⟩
  have HA5 := Lib.hid (RowAt.below HA4.out hb5 (RowAt.lt HA4.out))
  have hlr : (List.replicate b zb).length = b := List.length_replicate ..
  have CB := Lib.hid (begin_any (N0 := N0) hN1 (by omega) (HQT.out w5 HK5.out).1 HG5.out (by omega) (by omega) (by omega) (by rw [hlr]; exact HBL.out) (by rw [hlr]; omega) HH (by rw [HHH.out]; decide))
  clear hq hrow hb5 CN HL HA4 HK4 HR4 hlr
  go_wp2_with fail
  refine CB.out.mono ?_
  rintro e w6 ⟨rfl, hg6, hk6⟩
  have HK6 : Hid (Kept (fun j => j = a) w w6) := Lib.hid (HK5.out.trans hk6 fun x hx e => by omega)
  have HA6 := Lib.hid (RowAt.kept HA5.out hk6 (show ¬ a = G by omega))
  have CF := Lib.hid (HCF.out w6 q pc G hg6 (HQT.out w6 HK6.out).2 (by omega))
  clear hg6 hk6 CB HCF HG5 HA5 HK5
  go_wp2_with fail
  refine CF.out.mono ?_
  rintro e w7 ⟨rfl, hg7, hk7⟩
  have HK7 : Hid (Kept (fun j => j = a) w w7) := Lib.hid (HK6.out.trans hk7 fun x hx e => by omega)
  have HG7 := Lib.hid hg7
  have HA7 := Lib.hid (RowAt.kept HA6.out hk7 (show ¬ a = G by omega))
  clear hg7 hk7 CF HA6 HK6
  have hLb : L'.length = b := by rw [HL'.out, HBL.out]
  by_cases hr : r = 0
  · subst hr
    have CT := Lib.hid (tag_any (HQT.out w7 HK7.out).1 HG7.out (by omega) (by omega) (by omega) HL'.out (by omega) hz4 hz10)
    rw [show tx (longL z (tl (strOf (byB (xB (lastL cc L' l)))))) = tgS cc l z L' from rfl] at CT
    obtain ⟨TG, hTG⟩ : ∃ TG, TG = tgS cc l z L' := ⟨_, rfl⟩
    rw [← hTG] at CT
    have HV : Hid (byV 0 (tgS cc l z L') = .tuple #[.string TG, .int .i64 0]) := Lib.hid (by rw [hTG]; exact if_pos rfl)
    clear hTG
    go_wp2_with fail
    refine CT.out.mono ?_
    rintro e w8 ⟨rfl, hb8⟩
    have HK8 : Hid (Kept (fun j => j = a) w w8) := Lib.hid (HK7.out.trans (Kept.of_below (M := fun _ => False) hb8) fun _ _ e => e.elim)
    have CD := Lib.hid (arel_deferred (RowAt.below HA7.out hb8 (RowAt.lt HA7.out)) (HG7.out.live.step hb8) (by omega) (by omega) (by omega) (by omega) .returning)
    rw [hLb, hud, hcd] at CD
    clear hb8 CT HG7 HA7 HK7
    go_wp2
    refine leaves_cons (f := 37) (args := #[.pointer (some ⟨a, 0, none⟩), .pointer (some ⟨pc, 0, none⟩)]) (by simp) (by simp [go_sem]) ?_
    refine CD.out.mono ?_
    rintro e u' w9 ⟨rfl, rfl, _, hA9, hK9⟩
    exact ⟨_, results_tmp2 rfl _ _ _, by rw [HV.out]; rfl, hA9, HK8.out.trans hK9 fun x hx e => by omega⟩
  · have hE0 : (r == 0) = false := by simpa using hr
    have hE1 : decide (r = 0) = false := by simpa using hr
    have CD := Lib.hid (arel_deferred HA7.out HG7.out.live (by omega) (by omega) (by omega) (by omega) .returning)
    rw [hLb, hud, hcd] at CD
    have HV : Hid (byV r (tgS cc l z L') = .tuple #[.string ⟨#[]⟩, .int .i64 r]) := Lib.hid (if_neg hr)
    clear HG7 HA7 hr
    go_wp2
    refine leaves_cons (f := 37) (args := #[.pointer (some ⟨a, 0, none⟩), .pointer (some ⟨pc, 0, none⟩)]) (by simp) (by simp [go_sem]) ?_
    refine CD.out.mono ?_
    rintro e u' w9 ⟨rfl, rfl, _, hA9, hK9⟩
    exact ⟨_, results_tmp2 rfl _ _ _, by rw [HV.out]; rfl, hA9, HK7.out.trans hK9 fun x hx e => by omega⟩
end Go.Proofs.YtcbccjcnllifjaaGreatDoor
namespace Go.Proofs.YtcbccjcnllifjaaGreatDoor
set_option maxRecDepth 50000
open Go.RowKit Bb
set_option maxHeartbeats 1600000 in
theorem by_err (pa pt pm pl pz : Int) (s1 s2 s3 s4 : ByteArray) {E : Int} (hE : E ≠ 0) (CH : ∀ w : World, QAt w → Calls Tryz.prog 7 #[pav pa pt pm pl pz, inv s1 s2 s3 s4] w fun e w' => e = .returned (.tuple #[.string ⟨#[]⟩, .int .i64 E]) ∧ Below w.heap.size w w') (A : Option Addr) (fv : Value) (w : World) (hQ : QAt w) :
    Calls Tryz.prog 20 #[.pointer A, pav pa pt pm pl pz, inv s1 s2 s3 s4, fv] w fun e w' => e = .returned (.tuple #[.string ⟨#[]⟩, .int .i64 E]) ∧ Below w.heap.size w w' := by
  obtain ⟨hp, hi, hb⟩ := pin_rows pa pt pm pl pz s1 s2 s3 s4 w
  have C := Lib.hid (CH _ (hQ.next hb))
  have HP := Lib.hid hp
  have HI := Lib.hid hi
  have HB := Lib.hid hb
  have hE0 : (E == 0) = false := by simpa using hE
  have hE1 : decide (E = 0) = false := by simpa using hE
  clear hp hi hb CH hQ
  go_enter_defers Tryz.func20, Tryz.ntmps20
  go_wp2_with (first
    | refine wpList_load_want rfl 23 _ rfl _ _ rfl (pa_load HP.out) ?_
    | refine wpList_load_want rfl 25 _ rfl _ _ rfl (in_load HI.out) ?_)
  refine C.out.mono ?_
  rintro e w2 ⟨rfl, hb⟩
  have HB2 := Lib.hid (below_step HB.out hb)
  clear hb C HP HB HI
  go_wp2
  exact ⟨_, results_tmp2 rfl _ _ _, rfl, HB2.out⟩
section
variable {al t l m b cc g z : Nat} (CO : ∀ w : World, Calls Tryz.prog 23 #[pav al t m l z] w fun e w' => e = .returned (.tuple #[spv al t l m b cc g z, .int .i64 0]) ∧ Below w.heap.size w w') (s1 s2 s3 s4 HH : ByteArray)
    (CH : ∀ w : World, QAt w → Calls Tryz.prog 7 #[pav al t m l z, inv s1 s2 s3 s4] w fun e w' => e = .returned (.tuple #[.string HH, .int .i64 0]) ∧ Below w.heap.size w w')
include CO CH
set_option maxHeartbeats 1600000 in
theorem by_nil (fv : Value) (w : World) (hQ : QAt w) : Calls Tryz.prog 20 #[.pointer none, pav al t m l z, inv s1 s2 s3 s4, fv] w fun e w' => e = .returned (.tuple #[.string ⟨#[]⟩, .int .i64 11]) ∧ Below w.heap.size w w' := by
  obtain ⟨hp, hi, hb⟩ := pin_rows al t m l z s1 s2 s3 s4 w
  have C := Lib.hid (CH _ (hQ.next hb))
  have C2 := Lib.hid CO
  have C3 := Lib.hid ares_nil
  have HP := Lib.hid hp
  have HI := Lib.hid hi
  have HB := Lib.hid hb
  clear hp hi hb CH hQ CO
  go_enter_defers Tryz.func20, Tryz.ntmps20
  go_wp2_with (first
    | refine wpList_load_want rfl 23 _ rfl _ _ rfl (pa_load HP.out) ?_
    | refine wpList_load_want rfl 25 _ rfl _ _ rfl (in_load HI.out) ?_)
  refine C.out.mono ?_
  rintro e w2 ⟨rfl, hb⟩
  have HP2 := Lib.hid (HP.out.step hb)
  have HB2 := Lib.hid (below_step HB.out hb)
  clear hb C HP HB HI
  go_wp2_with (refine wpList_load_want rfl 23 _ rfl _ _ rfl (pa_load HP2.out) ?_)
  refine (C2.out _).mono ?_
  rintro e w3 ⟨rfl, hb⟩
  have HB3 := Lib.hid ((below_step HB2.out hb).alloc (below_step HB2.out hb).size (.cells (spc al t l m b cc g z) 57))
  clear hb C2 HP2 HB2
  go_wp2_with fail
  refine (C3.out _ _).mono ?_
  rintro e w' ⟨rfl, hw⟩
  obtain rfl := hw.symm
  go_wp2
  exact ⟨_, results_tmp2 rfl _ _ _, rfl, HB3.out⟩
set_option maxHeartbeats 1600000 in
theorem by_full {w : World} {a B u h c : Nat} (hA : AreAt w a B u h c) (hn : (B : Int) - u < b) (hB : B ≤ 4194304) (hu : u ≤ B) (fv : Value) (hQ : QAt w) : Calls Tryz.prog 20 #[.pointer (some ⟨a, 0, none⟩), pav al t m l z, inv s1 s2 s3 s4, fv] w fun e w' => e = .returned (.tuple #[.string ⟨#[]⟩, .int .i64 4]) ∧ Below w.heap.size w w' := by
  obtain ⟨hp, hi, hb⟩ := pin_rows al t m l z s1 s2 s3 s4 w
  have C := Lib.hid (CH _ (hQ.next hb))
  have C2 := Lib.hid CO
  have HA := Lib.hid hA
  have HP := Lib.hid hp
  have HI := Lib.hid hi
  have HB := Lib.hid hb
  have HX := Lib.hid (And.intro hn (And.intro hB hu))
  clear hp hi hb CH hQ CO hA hn hB hu
  go_enter_defers Tryz.func20, Tryz.ntmps20
  go_wp2_with (first
    | refine wpList_load_want rfl 23 _ rfl _ _ rfl (pa_load HP.out) ?_
    | refine wpList_load_want rfl 25 _ rfl _ _ rfl (in_load HI.out) ?_)
  refine C.out.mono ?_
  rintro e w2 ⟨rfl, hb⟩
  have HP2 := Lib.hid (HP.out.step hb)
  have HB2 := Lib.hid (below_step HB.out hb)
  clear hb C HP HB HI
  go_wp2_with (refine wpList_load_want rfl 23 _ rfl _ _ rfl (pa_load HP2.out) ?_)
  refine (C2.out _).mono ?_
  rintro e w3 ⟨rfl, hb⟩
  have HB3 := Lib.hid ((below_step HB2.out hb).alloc (below_step HB2.out hb).size (.cells (spc al t l m b cc g z) 57))
  have C3 := Lib.hid (ares_full (RowAt.below HA.out HB3.out (RowAt.lt HA.out)) (b : Int) (by omega) HX.out.1 HX.out.2.1 HX.out.2.2)
  clear hb C2 HP2 HB2 HA HX
  go_wp2_with fail
  refine C3.out.mono ?_
  rintro e w4 ⟨rfl, q, hw⟩
  have HB4 : Hid (Below w.heap.size w w4) := Lib.hid (by rw [hw]; exact below_drewN HB3.out q)
  clear hw C3 HB3
  go_wp2
  exact ⟨_, results_tmp2 rfl _ _ _, rfl, HB4.out⟩
end
set_option maxHeartbeats 1600000 in
theorem key_lift {pa pt pm pl pz : Int} {s1 s2 s3 s4 X : ByteArray} {E : Int} {A : Option Addr} {w : World} {R : World → Prop}
    (C : Calls Tryz.prog 20 #[.pointer A, pav pa pt pm pl pz, inv s1 s2 s3 s4, .func (.func 32) #[] #[]] (pinW pa pt pm pl pz s1 s2 s3 s4 w) fun e w' => e = .returned (.tuple #[.string X, .int .i64 E]) ∧ R w') :
    Calls Tryz.prog 13 #[.pointer A, pav pa pt pm pl pz, inv s1 s2 s3 s4] w fun e w' => e = .returned (.tuple #[.string X, .int .i64 E]) ∧ R w' := by
  have C := Lib.hid C
  obtain ⟨hp, hi, hb⟩ := pin_rows pa pt pm pl pz s1 s2 s3 s4 w
  have HP := Lib.hid hp
  have HI := Lib.hid hi
  clear hp hi hb
  go_enter Tryz.func13, Tryz.ntmps13
  go_wp2_with (first
    | refine wpList_load_want rfl 23 _ rfl _ _ rfl (pa_load HP.out) ?_
    | refine wpList_load_want rfl 25 _ rfl _ _ rfl (in_load HI.out) ?_)
  refine C.out.mono ?_
  rintro e w2 ⟨rfl, hr⟩
  have HR := Lib.hid hr
  clear hr C HP HI
  go_wp2
  go_ret2
  exact ⟨rfl, HR.out⟩
theorem tgS_is {al t l b cc g z : Nat} (HH : ByteArray) : tgS cc l z (allTo al t l b cc g (begTo HH cc (List.replicate b zb) l) (4 * t)) = tx (agL al t l b cc g z HH) := rfl
theorem key_any {w : World} {a B u h c N0 : Nat} (hA : AreAt w a B u h c) (hN1 : 0 < N0) (hN2 : TabN N0) (hNa : N0 ≤ a) (hQ : QAt w) (hT : TAt w)
    {al t l m b cc g z : Nat} (CO : ∀ w : World, Calls Tryz.prog 23 #[pav al t m l z] w fun e w' => e = .returned (.tuple #[spv al t l m b cc g z, .int .i64 0]) ∧ Below w.heap.size w w') (S : Sh al t l b cc g) (hm : m ≤ 4294967295) (hz4 : 4 ≤ z) (hz10 : z ≤ 1024)
    (s1 s2 s3 s4 HH : ByteArray) (hHH : HH.size = 64) (CH : ∀ w : World, QAt w → Calls Tryz.prog 7 #[pav al t m l z, inv s1 s2 s3 s4] w fun e w' => e = .returned (.tuple #[.string HH, .int .i64 0]) ∧ Below w.heap.size w w')
    (hun : u + b ≤ B) (hB : B ≤ 4194304) (hc : c < 4194304) :
    Calls Tryz.prog 13 #[.pointer (some ⟨a, 0, none⟩), pav al t m l z, inv s1 s2 s3 s4] w fun e w' => e = .returned (.tuple #[.string (tx (agL al t l b cc g z HH)), .int .i64 0]) ∧ AreAt w' a B u (max h (u + b)) c ∧ Kept (fun j => j = a) w w' := by
  obtain ⟨hp, hi, hb⟩ := pin_rows al t m l z s1 s2 s3 s4 w
  have haw : a < w.heap.size := RowAt.lt hA
  have hbl := S.bl
  refine key_lift ((by_any (RowAt.below hA hb haw) hN1 hN2 hNa (hQ.next hb) (hT.next hb) CO S hm hz4 hz10 s1 s2 s3 s4 HH hHH CH hun hB hc (F := 32) (reg_enters Tryz.func32 (by kernel_rfl) (by kernel_rfl)) (r := 0)
    (L' := allTo al t l b cc g (begTo HH cc (List.replicate b zb) l) (4 * t)) (by rw [allTo_len, begTo_len, List.length_replicate]; exact hbl) fun w q p G hG hT hN => fillall_any S hG (by rw [begTo_len, List.length_replicate]; exact hbl) hT hN2 hN).mono ?_)
  rintro e w' ⟨rfl, hA', hk⟩
  exact ⟨congrArg Ending.returned ((if_pos rfl).trans (by rw [tgS_is])), hA', (Kept.of_below (M := fun j => j = a) hb).trans hk fun _ _ e => e⟩
end Go.Proofs.YtcbccjcnllifjaaGreatDoor
