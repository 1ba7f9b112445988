import Derived.Test.YtieehdhinponcaaJ15
namespace Go.Proofs.Ytieehdhinponcaa
open Go.RowKit
set_option linter.unusedVariables false

/-- A list reads as triples of numbers. -/
def RdT (w : World) (v : Value) (ts : List (Int × Int × Int)) : Prop :=
  ts.length ≤ 281474976710656 ∧ ∃ a cap, v = .slice a ts.length cap ∧ (ts = [] ∨ ∃ b off, a = some ⟨b, off, none⟩ ∧ ∀ i t, ts[i]? = some t → w.cell? ⟨b, off + i * 3, none⟩ = some (.int .i64 t.1) ∧ w.cell? ⟨b, off + i * 3 + 1, none⟩ = some (.int .i64 t.2.1) ∧ w.cell? ⟨b, off + i * 3 + 2, none⟩ = some (.int .i64 t.2.2) ∧ (-9223372036854775808 ≤ t.1 ∧ t.1 ≤ 9223372036854775807) ∧ (-9223372036854775808 ≤ t.2.1 ∧ t.2.1 ≤ 9223372036854775807) ∧ (-9223372036854775808 ≤ t.2.2 ∧ t.2.2 ≤ 9223372036854775807))

set_option maxRecDepth 100000 in
set_option maxHeartbeats 8000000 in
theorem lent_walk {vk vf vg vt : Value} {k0 N : Int} {ks : List (List Nat)} {F G : List Nat} {ts : List (Int × Int × Int)} {w : World} (hk : RdP w vk ks) (hf : Rd w vf F) (hg : Rd w vg G) (lF : F.length ≤ 140737488351232) (lG : G.length ≤ 140737488351232) (hl : ∀ i, (ks.getD i []).length ≤ 140737488351232) (hn : ks.length ≤ 5864062014634) (ht : RdT w vt ts) :
    Calls Try.prog 8 #[.agg #[.int .i64 k0, .int .i64 N, vk, vf, vg], vt] w fun e w' => e = .returned (.bool true) ∧ Below w.heap.size w w' := by
  obtain ⟨a, cap, rfl⟩ := own_rdp_len hk
  obtain ⟨aF, nF, cF, rfl⟩ := rd_slice hf
  obtain ⟨aG, nG, cG, rfl⟩ := rd_slice hg
  have hnF := (rd_lens hf).1
  have hnG := (rd_lens hg).1
  obtain ⟨hts0, aT, cT, rfl, htc⟩ := ht
  obtain ⟨nt, hnt⟩ : ∃ nt, nt = ts.length := ⟨_, rfl⟩
  obtain ⟨n, hnn⟩ : ∃ n, n = ks.length := ⟨_, rfl⟩
  obtain ⟨W0, hW0⟩ : ∃ W0, W0 = w.alloc (.cells #[.int .i64 k0, .int .i64 N, .slice a ks.length cap, .slice aF nF cF, .slice aG nG cG] 42) := ⟨_, rfl⟩
  have b0 : Below w.heap.size w W0 := by rw [hW0]; exact (Below.refl _ _).alloc (Nat.le_refl _) _
  have hsz : w.heap.size < W0.heap.size := by rw [hW0]; simp
  have HK0 : Hid (∀ wx, Below W0.heap.size W0 wx → wx.cell? ⟨w.heap.size, 1, none⟩ = some (.int .i64 N) ∧ wx.cell? ⟨w.heap.size, 2, none⟩ = some (.slice a ks.length cap) ∧ wx.cell? ⟨w.heap.size, 3, none⟩ = some (.slice aF nF cF) ∧ wx.cell? ⟨w.heap.size, 4, none⟩ = some (.slice aG nG cG)) := by
    have h : ∀ wx, Below W0.heap.size W0 wx → wx.cell? ⟨w.heap.size, 1, none⟩ = some (.int .i64 N) ∧ wx.cell? ⟨w.heap.size, 2, none⟩ = some (.slice a ks.length cap) ∧ wx.cell? ⟨w.heap.size, 3, none⟩ = some (.slice aF nF cF) ∧ wx.cell? ⟨w.heap.size, 4, none⟩ = some (.slice aG nG cG) := fun wx hx => by
      refine ⟨(hx.cell (p := ⟨w.heap.size, 1, none⟩) hsz).trans ?_, (hx.cell (p := ⟨w.heap.size, 2, none⟩) hsz).trans ?_, (hx.cell (p := ⟨w.heap.size, 3, none⟩) hsz).trans ?_, (hx.cell (p := ⟨w.heap.size, 4, none⟩) hsz).trans ?_⟩
      all_goals (rw [hW0, Joins.cell_of_block (World.alloc_heap_new w _)]; rfl)
    exact h
  have HR0 : Hid (RdP w (.slice a ks.length cap) ks ∧ Rd w (.slice aF nF cF) F ∧ Rd w (.slice aG nG cG) G) := ⟨hk, hf, hg⟩
  have HT0 : Hid (ts = [] ∨ ∃ b off, aT = some ⟨b, off, none⟩ ∧ ∀ i t, ts[i]? = some t → w.cell? ⟨b, off + i * 3, none⟩ = some (.int .i64 t.1) ∧ w.cell? ⟨b, off + i * 3 + 1, none⟩ = some (.int .i64 t.2.1) ∧ w.cell? ⟨b, off + i * 3 + 2, none⟩ = some (.int .i64 t.2.2) ∧ (-9223372036854775808 ≤ t.1 ∧ t.1 ≤ 9223372036854775807) ∧ (-9223372036854775808 ≤ t.2.1 ∧ t.2.1 ≤ 9223372036854775807) ∧ (-9223372036854775808 ≤ t.2.2 ∧ t.2.2 ≤ 9223372036854775807)) := htc
  have HL : Hid (∀ i, (ks.getD i []).length ≤ 140737488351232) := hl
  have HB : Hid (∀ k ∈ ks, Bys k) := rdp_bys hk
  have HN : Hid (n = ks.length ∧ nF = F.length ∧ nG = G.length ∧ nt = ts.length) := ⟨hnn, hnF, hnG, hnt⟩
  have lF2 : nF ≤ 140737488351232 := by omega
  have lG2 : nG ≤ 140737488351232 := by omega
  rw [← hnn] at HK0 hW0 HR0 hn ⊢
  rw [← hnt] at hts0 ⊢
  have HBw : Hid (Below w.heap.size w W0) := b0
  clear hk hf hg hl hnn hsz b0 htc hnt hnF hnG lF lG
  go_enter Try.func8, Try.ntmps8
  go_wp2_with (go_at_call 12; fail)
  rw [← hW0]
  clear hW0
  refine Calls.mono (started_any _) ?_
  rintro e1 w1 ⟨rfl, b1⟩
  have HK : Hid (∀ wx, Below w1.heap.size w1 wx → wx.cell? ⟨w.heap.size, 1, none⟩ = some (.int .i64 N) ∧ wx.cell? ⟨w.heap.size, 2, none⟩ = some (.slice a n cap) ∧ wx.cell? ⟨w.heap.size, 3, none⟩ = some (.slice aF nF cF) ∧ wx.cell? ⟨w.heap.size, 4, none⟩ = some (.slice aG nG cG)) := by
    have h : ∀ wx, Below w1.heap.size w1 wx → wx.cell? ⟨w.heap.size, 1, none⟩ = some (.int .i64 N) ∧ wx.cell? ⟨w.heap.size, 2, none⟩ = some (.slice a n cap) ∧ wx.cell? ⟨w.heap.size, 3, none⟩ = some (.slice aF nF cF) ∧ wx.cell? ⟨w.heap.size, 4, none⟩ = some (.slice aG nG cG) := fun wx hx => HK0.out _ (b1.trans (hx.mono b1.size))
    exact h
  have BW : Hid (∀ wx, Below w1.heap.size w1 wx → Below w.heap.size w wx) := by
    have h : ∀ wx, Below w1.heap.size w1 wx → Below w.heap.size w wx := fun wx hx => HBw.out.trans ((b1.trans (hx.mono b1.size)).mono HBw.out.size)
    exact h
  have RF : Hid (∀ wx, Below w1.heap.size w1 wx → RdP wx (.slice a n cap) ks ∧ Rd wx (.slice aF nF cF) F ∧ Rd wx (.slice aG nG cG) G) := by
    have h : ∀ wx, Below w1.heap.size w1 wx → RdP wx (.slice a n cap) ks ∧ Rd wx (.slice aF nF cF) F ∧ Rd wx (.slice aG nG cG) G := fun wx hx => ⟨HR0.out.1.later (BW.out _ hx), HR0.out.2.1.later (BW.out _ hx), HR0.out.2.2.later (BW.out _ hx)⟩
    exact h
  have HT : Hid (∀ wx, Below w1.heap.size w1 wx → ∀ i, i < nt → ∃ b off x y z, aT = some ⟨b, off, none⟩ ∧ wx.cell? ⟨b, off + i * 3, none⟩ = some (.int .i64 x) ∧ wx.cell? ⟨b, off + i * 3 + 1, none⟩ = some (.int .i64 y) ∧ wx.cell? ⟨b, off + i * 3 + 2, none⟩ = some (.int .i64 z) ∧ (-9223372036854775808 ≤ x ∧ x ≤ 9223372036854775807) ∧ (-9223372036854775808 ≤ y ∧ y ≤ 9223372036854775807) ∧ (-9223372036854775808 ≤ z ∧ z ≤ 9223372036854775807)) := by
    have h : ∀ wx, Below w1.heap.size w1 wx → ∀ i, i < nt → ∃ b off x y z, aT = some ⟨b, off, none⟩ ∧ wx.cell? ⟨b, off + i * 3, none⟩ = some (.int .i64 x) ∧ wx.cell? ⟨b, off + i * 3 + 1, none⟩ = some (.int .i64 y) ∧ wx.cell? ⟨b, off + i * 3 + 2, none⟩ = some (.int .i64 z) ∧ (-9223372036854775808 ≤ x ∧ x ≤ 9223372036854775807) ∧ (-9223372036854775808 ≤ y ∧ y ≤ 9223372036854775807) ∧ (-9223372036854775808 ≤ z ∧ z ≤ 9223372036854775807) := fun wx hx i hi => by
      have hb := BW.out _ hx
      rcases HT0.out with h0 | ⟨b, off, rfl, hc⟩
      · have := HN.out.2.2.2; rw [h0] at this; simp at this; omega
      · obtain ⟨t, hti⟩ : ∃ t, ts[i]? = some t := ⟨ts[i]'(by rw [← HN.out.2.2.2]; exact hi), List.getElem?_eq_getElem _⟩
        obtain ⟨h1, h2, h3, h4, h5, h6⟩ := hc i t hti
        exact ⟨b, off, t.1, t.2.1, t.2.2, rfl, (hb.cell (p := ⟨b, off + i * 3, none⟩) (World.block_lt_of_cell? _ _ h1)).trans h1, (hb.cell (p := ⟨b, off + i * 3 + 1, none⟩) (World.block_lt_of_cell? _ _ h2)).trans h2, (hb.cell (p := ⟨b, off + i * 3 + 2, none⟩) (World.block_lt_of_cell? _ _ h3)).trans h3, h4, h5, h6⟩
    exact h
  clear HK0 HR0 HT0 HBw b1
  go_wp2
  go_loopw [6, 7, 8, 9] (fun vi vw i x wr => ∃ (t : Nat) (ai aw : Option Addr) (ci cw : Nat) (us is : List Value), t ≤ n ∧ i = .int .i64 ((t : Nat) : Int) ∧ vi = .slice ai t ci ∧ vw = .slice aw t cw ∧ BdS w1 wr ks t t t (.slice aw t cw) (.slice ai t ci) us is ∧ Sh wr w1.heap.size us ((ks.take t).map (· ++ marksL))) (fun _ _ i _ _ => n - (intOf i).toNat)
  case atStart => exact ⟨0, none, none, 0, 0, [], [], Nat.zero_le _, rfl, rfl, rfl, BdS.nil _ _ _ (Below.refl _ _), Sh.nil _ _⟩
  case round =>
    obtain ⟨t, ai, aw, ci, cw, us, is, htn, rfl, rfl, rfl, hS⟩ := hrel
    have HS : Hid (BdS w1 wr ks t t t (.slice aw t cw) (.slice ai t ci) us is ∧ Sh wr w1.heap.size us ((ks.take t).map (· ++ marksL))) := hS
    have bel := hS.1.bel
    clear hS
    obtain ⟨q1, q2, q3, q4⟩ := HK.out _ bel
    by_cases hlt : t < n
    · as_aux_lemma =>
        have hlt2 : (t : Int) < (n : Int) := by omega
        obtain ⟨b, off, rfl, u, hc, hu⟩ : ∃ b off, a = some ⟨b, off, none⟩ ∧ ∃ u, wr.cell? ⟨b, off + t, none⟩ = some u ∧ Rd wr u (ks.getD t []) := by
          obtain ⟨_, a1, c1, h2, hp⟩ := (RF.out _ bel).1
          simp only [Value.slice.injEq] at h2
          obtain ⟨rfl, _, rfl⟩ := h2
          rcases hp with rfl | ⟨b, off, rfl, hc⟩
          · have := HN.out.1; simp at this; omega
          · obtain ⟨u, h1, h2⟩ := hc t (by rw [← HN.out.1]; exact hlt)
            exact ⟨b, off, rfl, u, h1, h2⟩
        obtain ⟨au, nu, cu, rfl⟩ := rd_slice hu
        have HU : Hid (Rd wr (.slice au nu cu) (ks.getD t [])) := hu
        have hnu : Hid (nu = (ks.getD t []).length) := (rd_lens hu).1
        have hnu2 : nu ≤ 140737488351232 := by have := HL.out t; have := hnu.out; omega
        clear hu
        go_wp2_with (go_at_call 23; fail)
        refine Calls.mono (wide_own HU.out hnu2) ?_
        rintro e1 wz ⟨g, c, rfl, own1, hc1, hc2, bz⟩
        have HO1 : Hid (Own wz wr.heap.size (.slice (some ⟨g, 0, none⟩) (nu + 5) c) (nu + 5) (ks.getD t [] ++ marksL)) := own1
        have HS1 : Hid (BdS w1 wz ks t t t (.slice aw t cw) (.slice ai t ci) us is ∧ Sh wz w1.heap.size (us ++ [.slice (some ⟨g, 0, none⟩) (nu + 5) c]) ((ks.take t).map (· ++ marksL) ++ [ks.getD t [] ++ marksL])) := ⟨HS.out.1.later bz, HS.out.2.snoc bz (by rw [← own1.1]; exact own1) bel.size⟩
        clear own1
        have i1 : (0 : Int) ≤ (nu : Int) := by omega
        have i2 : (nu : Int) ≤ (c : Int) := by omega
        unfold maxLen at hc2
        have HC3 : Hid (∀ wx, Below w1.heap.size w1 wx → wx.cell? ⟨b, off + t, none⟩ = some (.slice au nu cu)) := by
          have h : ∀ wx, Below w1.heap.size w1 wx → wx.cell? ⟨b, off + t, none⟩ = some (.slice au nu cu) := fun wx hx => by
            obtain ⟨_, a1, c1, h2, hp⟩ := (RF.out _ (Below.refl _ _)).1
            simp only [Value.slice.injEq] at h2
            obtain ⟨h3, _, _⟩ := h2
            rcases hp with h0 | ⟨b', off', h4, hcc⟩
            · have := HN.out.1; rw [h0] at this; simp at this; omega
            · rw [h4] at h3
              cases h3
              obtain ⟨u', h5, _⟩ := hcc t (by rw [← HN.out.1]; exact hlt)
              have h6 := (bel.cell (p := ⟨b, off + t, none⟩) (World.block_lt_of_cell? _ _ h5)).trans h5
              rw [hc] at h6
              rw [(hx.cell (p := ⟨b, off + t, none⟩) (World.block_lt_of_cell? _ _ h5)).trans h5, ← h6]
          exact h
        go_wp2_with (first | (have X := HS2; at_builtin; refine wpList_append_part rfl _ _ rfl w1.heap.size _ _ _ is rfl HS2.out.1.ri _ rfl rfl (by omega) HS2.out.1.bel.size ?_; intro a3 c3 w3 hr3 hg3 hl3; have HS3 : Hid (BdS w1 w3 ks t (t + 1) (t + 1) (.slice a2 (t + 1) c2) (.slice a3 (t + 1) c3) (us ++ [.slice (some ⟨g, 0, none⟩) (nu + 5) c]) (is ++ [.slice (some ⟨g, 0, none⟩) nu c]) ∧ Sh w3 w1.heap.size (us ++ [.slice (some ⟨g, 0, none⟩) (nu + 5) c]) ((ks.take t).map (· ++ marksL) ++ [ks.getD t [] ++ marksL])) := ⟨HS2.out.1.growI hg3 hr3 hl3, HS2.out.2.kept_row HS2.out.1.ri hg3⟩; have HO3 : Hid (Own w3 wr.heap.size (.slice (some ⟨g, 0, none⟩) (nu + 5) c) (nu + 5) (ks.getD t [] ++ marksL)) := HO2.out.kept_row HS2.out.1.ri (by decide) hg3; clear hr3 hg3 hl3) | (at_builtin; refine wpList_append_part rfl _ _ rfl w1.heap.size _ _ _ us rfl HS1.out.1.rw_ _ rfl rfl (by omega) HS1.out.1.bel.size ?_; intro a2 c2 w2 hr2 hg2 hl2; have HS2 : Hid (BdS w1 w2 ks t (t + 1) t (.slice a2 (t + 1) c2) (.slice ai t ci) (us ++ [.slice (some ⟨g, 0, none⟩) (nu + 5) c]) is ∧ Sh w2 w1.heap.size (us ++ [.slice (some ⟨g, 0, none⟩) (nu + 5) c]) ((ks.take t).map (· ++ marksL) ++ [ks.getD t [] ++ marksL])) := ⟨HS1.out.1.growW hg2 hr2 hl2, HS1.out.2.kept_row HS1.out.1.rw_ hg2⟩; have HO2 : Hid (Own w2 wr.heap.size (.slice (some ⟨g, 0, none⟩) (nu + 5) c) (nu + 5) (ks.getD t [] ++ marksL)) := HO1.out.kept_row HS1.out.1.rw_ (by decide) hg2; clear hr2 hg2 hl2; have q4 := (HK.out _ HS2.out.1.bel).2.1; have hc3 := HC3.out _ HS2.out.1.bel))
        go_roundw
        case rel =>
          have e1 : t = us.length := by have := HS.out.1.rw_.1; simpa using this.symm
          have e2 : t = is.length := by have := HS.out.1.ri.1; simpa using this.symm
          refine ⟨t + 1, a3, a2, c3, c2, us ++ [.slice (some ⟨g, 0, none⟩) (nu + 5) c], is ++ [.slice (some ⟨g, 0, none⟩) nu c], by omega, by go_num, rfl, rfl, HS3.out.1.more (g := g) (c := c) ?_ ?_ ?_, ?_⟩
          · rw [← hnu.out, List.getElem?_append_right (by omega)]; simp [e1]
          · rw [← hnu.out, List.getElem?_append_right (by omega)]; simp [e2]
          · rw [← hnu.out]; exact HO3.out.mono bel.size
          · as_aux_lemma =>
              have hk : t < ks.length := by rw [← HN.out.1]; exact hlt
              have e3 : (ks.take (t + 1)).map (· ++ marksL) = (ks.take t).map (· ++ marksL) ++ [ks.getD t [] ++ marksL] := by
                have e : ks.getD t [] = ks[t] := by simp [List.getD, List.getElem?_eq_getElem hk]
                rw [e, List.take_succ_eq_append_getElem hk, List.map_append]
                rfl
              rw [e3]
              exact HS3.out.2
        case measure => simp [intOf]; omega
    · as_aux_lemma =>
        obtain rfl : t = n := by omega
        have hge : ¬ ((t : Int) < (t : Int)) := by omega
        go_wp2_with (go_at_call 23; fail)
        refine Calls.mono (wide_own (RF.out _ bel).2.1 lF2) ?_
        rintro e2 w2 ⟨gF, cf, rfl, oF, hf1, hf2, b2⟩
        have HS2 : Hid (BdS w1 w2 ks t t t (.slice aw t cw) (.slice ai t ci) us is ∧ Sh w2 w1.heap.size (us ++ [.slice (some ⟨gF, 0, none⟩) (nF + 5) cf]) (ks.map (· ++ marksL) ++ [F ++ marksL])) := ⟨HS.out.1.later b2, by
          have h := HS.out.2.snoc b2 (x := F ++ marksL) (by rw [← oF.1]; exact oF) bel.size
          rwa [List.take_of_length_le (by rw [HN.out.1]; exact Nat.le_refl _)] at h⟩
        have bel2 := HS2.out.1.bel
        obtain ⟨q1, q2, q3, q4⟩ := HK.out _ bel2
        clear oF
        go_wp2_with (go_at_call 23; fail)
        refine Calls.mono (wide_own (RF.out _ bel2).2.2 lG2) ?_
        rintro e3 w3 ⟨gG, cg, rfl, oG, hg1, hg2, b3⟩
        have L0 : Hid (Lw w1 w3 w1.heap.size t cw ci nF cf nG cg gF gG aw ai us is ks F G) := by
          have h := HS2.out.2.snoc b3 (x := G ++ marksL) (by rw [← oG.1]; exact oG) bel2.size
          have hS := HS2.out.1.later b3
          refine ⟨hS.bel, hS.bel.size, ?_, hS.rw_, hS.ri, fun j hj => ?_, HN.out.1.symm, HN.out.2.1.symm, HN.out.2.2.1.symm, fun i => ?_, (RF.out _ bel2).2.1.1, (RF.out _ bel2).2.2.1, HL.out⟩
          · rw [List.map_append]
            simp only [List.append_assoc, List.cons_append, List.nil_append] at h ⊢
            exact h
          · obtain ⟨g, c, h1, h2, _⟩ := hS.el j hj
            exact ⟨g, c, h1, h2⟩
          · as_aux_lemma =>
              by_cases hi : i < ks.length
              · refine HB.out _ ?_
                rw [List.getD_eq_getElem?_getD, List.getElem?_eq_getElem hi]
                exact List.getElem_mem _
              · rw [List.getD_eq_getElem?_getD, List.getElem?_eq_none (by omega)]
                intro x hx
                simp at hx
        have bel3 := L0.out.bel
        obtain ⟨q1, q2, q3, q4⟩ := HK.out _ bel3
        clear oG HS HS2 HB HL
        unfold maxLen at hf2 hg2
        have i1 : (0 : Int) ≤ (nF : Int) := by omega
        have i2 : (nF : Int) ≤ (cf : Int) := by omega
        have i3 : (0 : Int) ≤ (nG : Int) := by omega
        have i4 : (nG : Int) ≤ (cg : Int) := by omega
        go_wp2
        go_loopw [5, 14, 15, 16, 17, 18, 19, 20, 21, 22, 23, 24, 25, 26, 27, 28, 29, 30] (fun ok i _ _ _ _ _ _ _ _ _ _ _ _ _ _ _ _ wr => ∃ (y : Nat) (ks : List (List Nat)) (F G : List Nat), y ≤ nt ∧ y ≤ 41 ∧ i = .int .i64 ((y : Nat) : Int) ∧ ok = .bool true ∧ Lw w1 wr w1.heap.size t cw ci nF cf nG cg gF gG aw ai us is ks F G) (fun _ i _ _ _ _ _ _ _ _ _ _ _ _ _ _ _ _ _ => 41 - (intOf i).toNat)
        case atStart => exact ⟨0, ks, F, G, Nat.zero_le _, by omega, rfl, rfl, L0.out⟩
        case round =>
          clear L0 RF HN bel bel2 bel3 q1 q2 q3 q4 b2 b3
          obtain ⟨y, ks, F, G, hy1, hy2, rfl, rfl, hLw⟩ := hrel
          have HLw : Hid (∀ wx, Below wr.heap.size wr wx → Lw w1 wx w1.heap.size t cw ci nF cf nG cg gF gG aw ai us is ks F G) := by
            have h : ∀ wx, Below wr.heap.size wr wx → Lw w1 wx w1.heap.size t cw ci nF cf nG cg gF gG aw ai us is ks F G := fun wx hx => hLw.later hx
            exact h
          have HBw : Hid (∀ wx, Below wr.heap.size wr wx → Below w1.heap.size w1 wx) := by
            have h : ∀ wx, Below wr.heap.size wr wx → Below w1.heap.size w1 wx := fun wx hx => (hLw.later hx).bel
            exact h
          clear hLw
          have hy3 : (y : Int) ≤ (nt : Int) := by omega
          by_cases hy40 : y ≤ 40
          · as_aux_lemma =>
              have hy4 : (y : Int) ≤ 40 := by omega
              go_wp2
              obtain ⟨WR, hWR⟩ : ∃ WR, WR = wr := ⟨_, rfl⟩
              rw [← hWR] at HLw HBw ⊢
              clear hWR
              go_loopw [15, 16] (fun v kk wr => ∃ (k : Nat) (ak : Option Addr) (ck : Nat) (vs : List Value), k ≤ t ∧ kk = .int .i64 ((k : Nat) : Int) ∧ v = .slice ak k ck ∧ Cp WR wr k ck ak vs ks) (fun _ kk _ => t - (intOf kk).toNat)
              case atStart => exact ⟨0, none, 0, [], Nat.zero_le _, rfl, rfl, Cp.nil _ _⟩
              case round =>
                obtain ⟨k, ak, ck, vs, hkt, rfl, rfl, hC⟩ := hrel
                have HC : Hid (Cp WR wr k ck ak vs ks) := hC
                clear hC
                have bC := HC.out.bel
                by_cases hlt : k < t
                · as_aux_lemma =>
                    have hlt2 : (k : Int) < (t : Int) := by omega
                    obtain ⟨gi, gw, g, c, rfl, -, hci, -, -, -, hown⟩ := (HLw.out _ bC).cellI hlt
                    have hrd := (upto_own hown rfl ((HLw.out _ bC).bk k) ((HLw.out _ bC).ln k)).2
                    obtain ⟨m, hm⟩ : ∃ m, m = (ks.getD k []).length := ⟨_, rfl⟩
                    rw [← hm] at hci hrd
                    have hml : m ≤ 140737488351232 := by rw [hm]; exact (HLw.out _ bC).ln k
                    have HM : Hid (m = (ks.getD k []).length ∧ Rd wr (.slice (some ⟨g, 0, none⟩) m c) (ks.getD k [])) := ⟨hm, hrd⟩
                    clear hown hrd hm
                    go_wp2_with (first | (go_at_call 22; refine Calls.mono (copied_any HM.out.2 hml) ?_; rintro e5 w5 ⟨a5, c5, rfl, o5, b5⟩; have C5 : Hid (Cp WR w5 k ck ak vs ks ∧ Own w5 WR.heap.size (.slice a5 m c5) m (ks.getD k [])) := ⟨HC.out.later b5, o5.mono bC.size⟩; clear o5) | (at_builtin; refine wpList_append_part rfl _ _ rfl WR.heap.size _ _ _ vs rfl C5.out.1.row _ rfl rfl (by omega) C5.out.1.bel.size ?_; intro a6 c6 w6 hr6 hg6 hl6; have C6 : Hid (Cp WR w6 (k + 1) c6 a6 (vs ++ [.slice a5 m c5]) ks) := C5.out.1.more HM.out.1 C5.out.2 hr6 hg6; clear hr6 hg6 hl6))
                    go_roundw
                    case rel => exact ⟨k + 1, a6, c6, _, by omega, by go_num, rfl, C6.out⟩
                    case measure => simp [intOf]; omega
                · as_aux_lemma =>
                    obtain rfl : k = t := by omega
                    have hge2 : ¬ ((k : Int) < (k : Int)) := by omega
                    have HF0 : Hid (∀ wx, Below WR.heap.size WR wx → Rd wx (.slice (some ⟨gF, 0, none⟩) (nF + 5) cf) (F ++ marksL) ∧ Rd wx (.slice (some ⟨gF, 0, none⟩) nF cf) F ∧ Rd wx (.slice (some ⟨gG, 0, none⟩) (nG + 5) cg) (G ++ marksL) ∧ Rd wx (.slice (some ⟨gG, 0, none⟩) nG cg) G) := by
                      have h : ∀ wx, Below WR.heap.size WR wx → Rd wx (.slice (some ⟨gF, 0, none⟩) (nF + 5) cf) (F ++ marksL) ∧ Rd wx (.slice (some ⟨gF, 0, none⟩) nF cf) F ∧ Rd wx (.slice (some ⟨gG, 0, none⟩) (nG + 5) cg) (G ++ marksL) ∧ Rd wx (.slice (some ⟨gG, 0, none⟩) nG cg) G := fun wx hx => by
                        have l := HLw.out _ hx
                        have r1 := upto_own l.ownF.1 l.hF l.bF lF2
                        have r2 := upto_own l.ownF.2 l.hG l.bG lG2
                        exact ⟨r1.1, r1.2, r2.1, r2.2⟩
                      exact h
                    go_wp2_with (first | (go_at_call_of 22 (Value.slice (some ⟨gF, 0, none⟩) nF cf); refine Calls.mono (copied_any (HF0.out _ bC).2.1 lF2) ?_; rintro e5 w5 ⟨a5, c5, rfl, o5, b5⟩; have O5 : Hid (Own w5 wr.heap.size (.slice a5 nF c5) nF F) := o5; have b45 := bC.trans (b5.mono bC.size); clear o5) | (go_at_call_of 22 (Value.slice (some ⟨gG, 0, none⟩) nG cg); refine Calls.mono (copied_any (HF0.out _ b45).2.2.2 lG2) ?_; rintro e6 w6 ⟨a6, c6, rfl, o6, b6⟩; have O6 : Hid (Own w6 w5.heap.size (.slice a6 nG c6) nG G) := o6; have b46 := b45.trans (b6.mono b45.size); obtain ⟨q1, q2, q3, q4⟩ := HK.out _ (HBw.out _ b46); clear o6) | (go_at_call 13; fail))
                    have hkk : ks.length = k := (HLw.out _ (Below.refl _ _)).hks
                    have KQ : Hid (∀ wx, Below w6.heap.size w6 wx → RdP wx (.slice ai k ci) ks ∧ RdP wx (.slice ak k ck) ks) := by
                      have c6 : Cp WR w6 k ck ak vs ks := (HC.out.later b5).later b6
                      have h : ∀ wx, Below w6.heap.size w6 wx → RdP wx (.slice ai k ci) ks ∧ RdP wx (.slice ak k ck) ks := fun wx hx => by
                        have l := HLw.out _ (b46.trans (hx.mono b46.size))
                        exact ⟨l.rdp (by omega), (c6.later hx).rdp hkk l.bk l.ln (by omega)⟩
                      exact h
                    have FQ : Hid (∀ wx, Below w6.heap.size w6 wx → Rd wx (.slice (some ⟨gF, 0, none⟩) nF cf) F ∧ Rd wx (.slice (some ⟨gG, 0, none⟩) nG cg) G ∧ Rd wx (.slice a5 nF c5) F ∧ Rd wx (.slice a6 nG c6) G) := by
                      have h : ∀ wx, Below w6.heap.size w6 wx → Rd wx (.slice (some ⟨gF, 0, none⟩) nF cf) F ∧ Rd wx (.slice (some ⟨gG, 0, none⟩) nG cg) G ∧ Rd wx (.slice a5 nF c5) F ∧ Rd wx (.slice a6 nG c6) G := fun wx hx => by
                        have l := HF0.out _ (b46.trans (hx.mono b46.size))
                        have ll := HLw.out _ (b46.trans (hx.mono b46.size))
                        exact ⟨l.2.1, l.2.2.2, ((O5.out.later b6).later hx).rd ll.bF (by omega), (O6.out.later hx).rd ll.bG (by omega)⟩
                      exact h
                    have CQ : Hid (∀ wx, Below w6.heap.size w6 wx → Cp WR wx k ck ak vs ks) := by
                      have h : ∀ wx, Below w6.heap.size w6 wx → Cp WR wx k ck ak vs ks := fun wx hx => ((HC.out.later b5).later b6).later hx
                      exact h
                    have BQ : Hid (∀ wx, Below w6.heap.size w6 wx → Below WR.heap.size WR wx) := by
                      have h : ∀ wx, Below w6.heap.size w6 wx → Below WR.heap.size WR wx := fun wx hx => b46.trans (hx.mono b46.size)
                      exact h
                    obtain ⟨E, hE⟩ : ∃ E, E = bldE N ks.length := ⟨_, rfl⟩
                    obtain ⟨L, hL⟩ : ∃ L, L = bldL N ks := ⟨_, rfl⟩
                    have hE61 : E ≤ 61 := by rw [hE]; exact bldE_le _ _
                    have HBu : Hid (∀ wx, Below w6.heap.size w6 wx → Calls Try.prog 13 #[.int .i64 N, .slice ai k ci] wx fun e w' => ∃ a m c, e = .returned (.tuple #[.slice a m c, .int .i64 ((E : Nat) : Int)]) ∧ Rd w' (.slice a m c) L ∧ Below wx.heap.size wx w') := by
                      have h : ∀ wx, Below w6.heap.size w6 wx → Calls Try.prog 13 #[.int .i64 N, .slice ai k ci] wx fun e w' => ∃ a m c, e = .returned (.tuple #[.slice a m c, .int .i64 ((E : Nat) : Int)]) ∧ Rd w' (.slice a m c) L ∧ Below wx.heap.size wx w' := fun wx hx => by
                        refine (build_any N (KQ.out _ hx).1).mono ?_
                        rintro e w' ⟨a, m, c, rfl, own, b⟩
                        refine ⟨a, m, c, by rw [hE], ?_, b⟩
                        rw [hL]
                        exact own.rd (bldL_bys _ _) (by have := own.1; have := bldL_len N ks; omega)
                      exact h
                    have HRb : Hid (∀ wx, Below w6.heap.size w6 wx → Calls Try.prog 24 #[.int .i64 N, .slice ak k ck] wx fun e w' => ∃ a m c, e = .returned (.tuple #[.slice a m c, .int .i64 ((E : Nat) : Int)]) ∧ Rd w' (.slice a m c) L ∧ Below wx.heap.size wx w') := by
                      have h : ∀ wx, Below w6.heap.size w6 wx → Calls Try.prog 24 #[.int .i64 N, .slice ak k ck] wx fun e w' => ∃ a m c, e = .returned (.tuple #[.slice a m c, .int .i64 ((E : Nat) : Int)]) ∧ Rd w' (.slice a m c) L ∧ Below wx.heap.size wx w' := fun wx hx => by
                        refine (refBuild_any N (KQ.out _ hx).2).mono ?_
                        rintro e w' ⟨a, m, c, rfl, own, b⟩
                        refine ⟨a, m, c, by rw [hE], ?_, b⟩
                        rw [hL]
                        exact own.rd (bldL_bys _ _) (by have := own.1; have := bldL_len N ks; omega)
                      exact h
                    clear hE hL
                    refine Calls.mono (HBu.out _ (Below.refl _ _)) ?_
                    rintro e7 w7 ⟨a7, m7, c7, rfl, r7, b7⟩
                    have R7 : Hid (Rd w7 (.slice a7 m7 c7) L) := r7
                    clear r7
                    obtain ⟨q1, q2, q3, q4⟩ := HK.out _ (HBw.out _ (BQ.out _ b7))
                    go_wp2_with (go_at_call 24; fail)
                    refine Calls.mono (HRb.out _ b7) ?_
                    rintro e8 w8 ⟨a8, m8, c8, rfl, r8, b8'⟩
                    have R8 : Hid (Rd w8 (.slice a7 m7 c7) L ∧ Rd w8 (.slice a8 m8 c8) L) := ⟨R7.out.later b8', r8⟩
                    have b8 := b7.trans (b8'.mono b7.size)
                    clear r8 b8' R7
                    go_wp2_with (first | (go_at_call 14; refine Calls.mono (num_any _ _) ?_; rintro en wn ⟨rfl, rfl⟩) | (go_at_call 18; refine Calls.mono (alike_any R8.out.1 R8.out.2) ?_; rintro ea wa ⟨rfl, rfl⟩; rw [show decide (L = L) = true by simp]) | (go_at_call 16; fail))
                    refine Calls.mono (has_any (FQ.out _ b8).1 (FQ.out _ b8).2.1) ?_
                    rintro e9 w9 ⟨rfl, b9'⟩
                    have b9 := b8.trans (b9'.mono b8.size)
                    clear b9' R8
                    obtain ⟨hv, hhv⟩ : ∃ hv, hv = hasB F G := ⟨_, rfl⟩
                    obtain ⟨ce, hce⟩ : ∃ ce, ce = chkE F := ⟨_, rfl⟩
                    obtain ⟨oe, hoe⟩ : ∃ oe, oe = onesL F := ⟨_, rfl⟩
                    rw [← hhv, ← hce]
                    go_wp2_with (go_at_call 25; fail)
                    refine Calls.mono (refHas_any (FQ.out _ b9).2.2.1 (FQ.out _ b9).2.2.2) ?_
                    rintro e10 w10 ⟨rfl, b10'⟩
                    rw [← hhv, ← hce]
                    have b10 := b9.trans (b10'.mono b9.size)
                    have HCk : Hid (∀ wx, Below w6.heap.size w6 wx → Calls Try.prog 17 #[.slice (some ⟨gF, 0, none⟩) nF cf] wx fun e w' => e = .returned (.int .i64 ((ce : Nat) : Int)) ∧ Below w6.heap.size w6 w') := by
                      have h : ∀ wx, Below w6.heap.size w6 wx → Calls Try.prog 17 #[.slice (some ⟨gF, 0, none⟩) nF cf] wx fun e w' => e = .returned (.int .i64 ((ce : Nat) : Int)) ∧ Below w6.heap.size w6 w' := fun wx hx => by rw [hce]; exact (check_any (FQ.out wx hx).1).mono fun e w' h => ⟨h.1, hx.trans (h.2.mono hx.size)⟩
                      exact h
                    have HRk : Hid (∀ wx, Below w6.heap.size w6 wx → Calls Try.prog 26 #[.slice a5 nF c5] wx fun e w' => e = .returned (.int .i64 ((ce : Nat) : Int)) ∧ Below w6.heap.size w6 w') := by
                      have h : ∀ wx, Below w6.heap.size w6 wx → Calls Try.prog 26 #[.slice a5 nF c5] wx fun e w' => e = .returned (.int .i64 ((ce : Nat) : Int)) ∧ Below w6.heap.size w6 w' := fun wx hx => by rw [hce]; exact (refCheck_any (FQ.out wx hx).2.2.1).mono fun e w' h => ⟨h.1, hx.trans (h.2.mono hx.size)⟩
                      exact h
                    have HOn : Hid (∀ wx, Below w6.heap.size w6 wx → Calls Try.prog 20 #[.slice (some ⟨gF, 0, none⟩) nF cf] wx fun e w' => e = .returned (.int .i64 ((oe : Nat) : Int)) ∧ Below w6.heap.size w6 w') := by
                      have h : ∀ wx, Below w6.heap.size w6 wx → Calls Try.prog 20 #[.slice (some ⟨gF, 0, none⟩) nF cf] wx fun e w' => e = .returned (.int .i64 ((oe : Nat) : Int)) ∧ Below w6.heap.size w6 w' := fun wx hx => by rw [hoe]; exact (ones_any (FQ.out wx hx).1).mono fun e w' h => ⟨h.1, hx.trans (h.2.mono hx.size)⟩
                      exact h
                    have HRo : Hid (∀ wx, Below w6.heap.size w6 wx → Calls Try.prog 27 #[.slice a5 nF c5] wx fun e w' => e = .returned (.int .i64 ((oe : Nat) : Int)) ∧ Below w6.heap.size w6 w') := by
                      have h : ∀ wx, Below w6.heap.size w6 wx → Calls Try.prog 27 #[.slice a5 nF c5] wx fun e w' => e = .returned (.int .i64 ((oe : Nat) : Int)) ∧ Below w6.heap.size w6 w' := fun wx hx => by rw [hoe]; exact (refOnes_any (FQ.out wx hx).2.2.1).mono fun e w' h => ⟨h.1, hx.trans (h.2.mono hx.size)⟩
                      exact h
                    clear hhv hce hoe b10'
                    go_wp2_with (first | (go_at_call 14; refine Calls.mono (num_any _ _) ?_; rintro en wn ⟨rfl, rfl⟩) | (go_at_call 17; refine Calls.mono (HCk.out _ (by assumption)) ?_; rintro e11 w11 ⟨rfl, b11⟩) | (go_at_call 26; refine Calls.mono (HRk.out _ (by assumption)) ?_; rintro e12 w12 ⟨rfl, b12⟩) | (go_at_call 20; refine Calls.mono (HOn.out _ (by assumption)) ?_; rintro e13 w13 ⟨rfl, b13⟩) | (go_at_call 27; refine Calls.mono (HRo.out _ (by assumption)) ?_; rintro e14 w14 ⟨rfl, b14⟩))
                    have hFl : F.length ≤ 140737488351232 := by rw [(HLw.out _ (Below.refl _ _)).hF]; exact lF2
                    clear HCk HRk HOn HRo HBu HRb
                    go_loopw [5, 19, 20, 21, 22, 25, 26, 27] (fun ok _ _ _ _ kk _ _ wr => ∃ q : Nat, q ≤ 2 ∧ kk = .int .i64 ((q : Nat) : Int) ∧ ok = .bool true ∧ Below w6.heap.size w6 wr) (fun _ _ _ _ _ kk _ _ _ => 2 - (intOf kk).toNat)
                    case atStart => exact ⟨0, Nat.zero_le _, rfl, rfl, b14⟩
                    case round =>
                      clear b7 b8 b9 b10 b11 b12 b13 b14
                      obtain ⟨q, hq2, rfl, rfl, hbz⟩ := hrel
                      by_cases hql : q < 2
                      · as_aux_lemma =>
                          have hql2 : (q : Int) < 2 := by omega
                          have hand := and_odd (y + q) (by omega)
                          rw [show ((y + q : Nat) : Int) = (y : Int) + (q : Int) by omega] at hand
                          have hwr : IntKind.i64.wrap ((y : Int) + (q : Int)) = (y : Int) + (q : Int) := IntWalk.i64_in _ ⟨by omega, by omega⟩
                          by_cases hpar : (y + q) % 2 = 1
                          · as_aux_lemma =>
                              rw [hpar] at hand
                              obtain ⟨XX, hXX⟩ : ∃ XX, XX = uniL F F := ⟨_, rfl⟩
                              obtain ⟨EE, hEE⟩ : ∃ EE, EE = uniE F F := ⟨_, rfl⟩
                              go_wp2_with (go_at_call 15; fail)
                              refine Calls.mono (unionR (FQ.out _ hbz).1 (FQ.out _ hbz).1 hFl) ?_
                              rintro ez1 wz1 ⟨az1, mz1, cz1, rfl, rz1, bz1'⟩
                              have bz1 := hbz.trans (bz1'.mono hbz.size)
                              rw [← hXX] at rz1
                              rw [← hEE]
                              have RZ1 : Hid (Rd wz1 (.slice az1 mz1 cz1) XX) := rz1
                              clear rz1 bz1'
                              go_wp2_with (go_at_call 28; fail)
                              refine Calls.mono (refUnionR (FQ.out _ bz1).2.2.1 (FQ.out _ bz1).2.2.1 hFl) ?_
                              rintro ez2 wz2 ⟨az2, mz2, cz2, rfl, rz2, bz2'⟩
                              have bz2 := bz1.trans (bz2'.mono bz1.size)
                              rw [← hXX] at rz2
                              rw [← hEE]
                              have RZ2 : Hid (Rd wz2 (.slice az1 mz1 cz1) XX ∧ Rd wz2 (.slice az2 mz2 cz2) XX) := ⟨RZ1.out.later bz2', rz2⟩
                              clear rz2 bz2' hXX hEE
                              go_wp2_with (first | (go_at_call 14; refine Calls.mono (num_any _ _) ?_; rintro en2 wn2 ⟨rfl, rfl⟩) | (go_at_call 18; refine Calls.mono (alike_any RZ2.out.1 RZ2.out.2) ?_; rintro ea2 wa2 ⟨rfl, rfl⟩; rw [show decide (XX = XX) = true by simp]))
                              go_roundw
                              case rel => exact ⟨q + 1, by omega, by go_num, rfl, bz2⟩
                              case measure => simp [intOf]; omega
                          · as_aux_lemma =>
                              have hpar0 : (y + q) % 2 = 0 := by omega
                              rw [hpar0] at hand
                              obtain ⟨XX, hXX⟩ : ∃ XX, XX = uniL F G := ⟨_, rfl⟩
                              obtain ⟨EE, hEE⟩ : ∃ EE, EE = uniE F G := ⟨_, rfl⟩
                              go_wp2_with (go_at_call 15; fail)
                              refine Calls.mono (unionR (FQ.out _ hbz).1 (FQ.out _ hbz).2.1 hFl) ?_
                              rintro ez1 wz1 ⟨az1, mz1, cz1, rfl, rz1, bz1'⟩
                              have bz1 := hbz.trans (bz1'.mono hbz.size)
                              rw [← hXX] at rz1
                              rw [← hEE]
                              have RZ1 : Hid (Rd wz1 (.slice az1 mz1 cz1) XX) := rz1
                              clear rz1 bz1'
                              go_wp2_with (go_at_call 28; fail)
                              refine Calls.mono (refUnionR (FQ.out _ bz1).2.2.1 (FQ.out _ bz1).2.2.2 hFl) ?_
                              rintro ez2 wz2 ⟨az2, mz2, cz2, rfl, rz2, bz2'⟩
                              have bz2 := bz1.trans (bz2'.mono bz1.size)
                              rw [← hXX] at rz2
                              rw [← hEE]
                              have RZ2 : Hid (Rd wz2 (.slice az1 mz1 cz1) XX ∧ Rd wz2 (.slice az2 mz2 cz2) XX) := ⟨RZ1.out.later bz2', rz2⟩
                              clear rz2 bz2' hXX hEE
                              go_wp2_with (first | (go_at_call 14; refine Calls.mono (num_any _ _) ?_; rintro en2 wn2 ⟨rfl, rfl⟩) | (go_at_call 18; refine Calls.mono (alike_any RZ2.out.1 RZ2.out.2) ?_; rintro ea2 wa2 ⟨rfl, rfl⟩; rw [show decide (XX = XX) = true by simp]))
                              go_roundw
                              case rel => exact ⟨q + 1, by omega, by go_num, rfl, bz2⟩
                              case measure => simp [intOf]; omega
                      · as_aux_lemma =>
                          obtain rfl : q = 2 := by omega
                          have hge3 : ¬ (((2 : Nat) : Int) < 2) := by omega
                          have KP : Hid (∀ wx, Below w6.heap.size w6 wx → Rd wx (.slice (some ⟨gF, 0, none⟩) (nF + 5) cf) (F ++ marksL) ∧ Rd wx (.slice (some ⟨gG, 0, none⟩) (nG + 5) cg) (G ++ marksL)) := by
                            have h : ∀ wx, Below w6.heap.size w6 wx → Rd wx (.slice (some ⟨gF, 0, none⟩) (nF + 5) cf) (F ++ marksL) ∧ Rd wx (.slice (some ⟨gG, 0, none⟩) (nG + 5) cg) (G ++ marksL) := fun wx hx => ⟨(HF0.out _ (BQ.out _ hx)).1, (HF0.out _ (BQ.out _ hx)).2.2.1⟩
                            exact h
                          go_wp2_with (go_at_call 29; fail)
                          refine Calls.mono (kept_any (KP.out _ hbz).1 (FQ.out _ hbz).2.2.1) ?_
                          rintro ek1 wk1 ⟨rfl, bk1'⟩
                          have bk1 := hbz.trans (bk1'.mono hbz.size)
                          go_wp2_with (go_at_call 29; fail)
                          refine Calls.mono (kept_any (KP.out _ bk1).2 (FQ.out _ bk1).2.2.2) ?_
                          rintro ek2 wk2 ⟨rfl, bk2'⟩
                          have bk2 := bk1.trans (bk2'.mono bk1.size)
                          clear bk1' bk2' KP
                          go_wp2
                          go_loopw [5, 28] (fun ok kk wr => ∃ q : Nat, q ≤ k ∧ kk = .int .i64 ((q : Nat) : Int) ∧ ok = .bool true ∧ Below w6.heap.size w6 wr) (fun _ kk _ => k - (intOf kk).toNat)
                          case atStart => exact ⟨0, Nat.zero_le _, rfl, rfl, bk2⟩
                          case round =>
                            clear hbz bk1 bk2
                            obtain ⟨q, hqk, rfl, rfl, hbz⟩ := hrel
                            by_cases hql : q < k
                            · as_aux_lemma =>
                                have hql2 : (q : Int) < (k : Int) := by omega
                                obtain ⟨gi, gw, g, c, -, rfl, -, hcw, -, -, hown⟩ := (HLw.out _ (BQ.out _ hbz)).cellI hql
                                obtain ⟨gk, ac, cc, rfl, hck, hownC⟩ := (CQ.out _ hbz).cell hql
                                have l := HLw.out _ (BQ.out _ hbz)
                                have hw := (upto_own hown rfl (l.bk q) (l.ln q)).1
                                have hr := hownC.rd (l.bk q) (by have := l.ln q; omega)
                                obtain ⟨m, hm⟩ : ∃ m, m = (ks.getD q []).length := ⟨_, rfl⟩
                                rw [← hm] at hcw hck hw hr
                                have hml : m ≤ 140737488351232 := by rw [hm]; exact l.ln q
                                have k1 := World.block_lt_of_cell? _ _ hcw
                                have k2 := World.block_lt_of_cell? _ _ hck
                                have HQ : Hid (∀ wx, Below wr.heap.size wr wx → wx.cell? ⟨gw, q, none⟩ = some (.slice (some ⟨g, 0, none⟩) (m + 5) c) ∧ wx.cell? ⟨gk, q, none⟩ = some (.slice ac m cc)) := by
                                  have h : ∀ wx, Below wr.heap.size wr wx → wx.cell? ⟨gw, q, none⟩ = some (.slice (some ⟨g, 0, none⟩) (m + 5) c) ∧ wx.cell? ⟨gk, q, none⟩ = some (.slice ac m cc) := fun wx hx => ⟨(hx.cell (p := ⟨gw, q, none⟩) k1).trans hcw, (hx.cell (p := ⟨gk, q, none⟩) k2).trans hck⟩
                                  exact h
                                have HKe : Hid (∀ wx, Below wr.heap.size wr wx → Calls Try.prog 29 #[.slice (some ⟨g, 0, none⟩) (m + 5) c, .slice ac m cc] wx fun e w' => e = .returned (.bool true) ∧ Below wr.heap.size wr w') := by
                                  have h : ∀ wx, Below wr.heap.size wr wx → Calls Try.prog 29 #[.slice (some ⟨g, 0, none⟩) (m + 5) c, .slice ac m cc] wx fun e w' => e = .returned (.bool true) ∧ Below wr.heap.size wr w' := fun wx hx => (kept_any (hw.later hx) (hr.later hx)).mono fun e w' h => ⟨h.1, hx.trans (h.2.mono hx.size)⟩
                                  exact h
                                clear hown hownC l hw hr hm k1 k2
                                have HBZ : Hid (Below w6.heap.size w6 wr) := hbz
                                clear hbz
                                go_wp2
                                have bd : Below wr.heap.size wr wr.drew := (Below.refl _ _).drew
                                have p0 := HQ.out _ bd
                                have p9 := HQ.out _ (Below.refl _ _)
                                have z0 : (0 : Int) ≤ (q : Int) := by omega
                                go_region_held3 (fun wx => wx.cell? ⟨gw, q, none⟩ = some (.slice (some ⟨g, 0, none⟩) (m + 5) c) ∧ wx.cell? ⟨gk, q, none⟩ = some (.slice ac m cc)) (first | exact p0 | exact p5) (first | (go_at_call 29; refine Calls.mono (HKe.out _ bd) ?_; rintro e5 wk5 ⟨rfl, bk5⟩; have p5 := HQ.out _ bk5))
                                go_wp2
                                go_roundw
                                case rel => exact ⟨q + 1, by omega, by go_num, rfl, HBZ.out.trans (bk5.mono HBZ.out.size)⟩
                                case measure => simp [intOf]; omega
                            · as_aux_lemma =>
                                obtain rfl : q = k := by omega
                                have hge4 : ¬ ((q : Int) < (q : Int)) := by omega
                                have bE := BQ.out _ hbz
                                have LE : Hid (∀ wx, Below wr.heap.size wr wx → Lw w1 wx w1.heap.size q cw ci nF cf nG cg gF gG aw ai us is ks F G) := by
                                  have h : ∀ wx, Below wr.heap.size wr wx → Lw w1 wx w1.heap.size q cw ci nF cf nG cg gF gG aw ai us is ks F G := fun wx hx => HLw.out _ (bE.trans (hx.mono bE.size))
                                  exact h
                                have bW := HBw.out _ bE
                                clear HLw KQ FQ CQ BQ HF0 O5 O6 HC hbz b46 b45 b5 b6 q1 q2 q3 q4 bC
                                by_cases hyt : y < nt
                                · as_aux_lemma =>
                                    have hyt2 : (y : Int) < (nt : Int) := by omega
                                    have hyt3 : ¬ ((y : Int) = (nt : Int)) := by omega
                                    have hyt4 : ((y : Int) == (nt : Int)) = false := by rw [beq_eq_false_iff_ne]; omega
                                    obtain ⟨bT, oT, x0, x1, x2, rfl, hx0, hx1, hx2, hxb0, hxb1, hxb2⟩ := HT.out _ bW y hyt
                                    obtain ⟨gT, hgT⟩ : ∃ gT, gT = wr.heap.size := ⟨_, rfl⟩
                                    obtain ⟨WA, hWA⟩ : ∃ WA, WA = wr.alloc (.cells #[.int .i64 x0, .int .i64 x1, .int .i64 x2] 49) := ⟨_, rfl⟩
                                    have hFT : gF < gT ∧ gG < gT := by
                                      have l := LE.out _ (Below.refl _ _)
                                      rw [hgT]
                                      exact ⟨(l.ownF.1.2.lt gF rfl).2, (l.ownF.2.2.lt gG rfl).2⟩
                                    have hKT : Hid (∀ j g c, j < q → us[j]? = some (.slice (some ⟨g, 0, none⟩) ((ks.getD j []).length + 5) c) → g < gT) := by
                                      have h : ∀ j g c, j < q → us[j]? = some (.slice (some ⟨g, 0, none⟩) ((ks.getD j []).length + 5) c) → g < gT := fun j g c hj hu => by
                                        obtain ⟨g', c', h1, _, o⟩ := (LE.out _ (Below.refl _ _)).ownK hj
                                        rw [hu] at h1
                                        cases h1
                                        rw [hgT]
                                        exact (o.2.lt g rfl).2
                                      exact h
                                    have bA : Below wr.heap.size wr WA := by rw [hWA]; exact (Below.refl _ _).alloc (Nat.le_refl _) _
                                    have hTs : gT < WA.heap.size := by rw [hWA, hgT]; simp
                                    have TQ : Hid (∀ wx, Below WA.heap.size WA wx → wx.cell? ⟨gT, 0, none⟩ = some (.int .i64 x0) ∧ wx.cell? ⟨gT, 1, none⟩ = some (.int .i64 x1) ∧ wx.cell? ⟨gT, 2, none⟩ = some (.int .i64 x2)) := by
                                      have h : ∀ wx, Below WA.heap.size WA wx → wx.cell? ⟨gT, 0, none⟩ = some (.int .i64 x0) ∧ wx.cell? ⟨gT, 1, none⟩ = some (.int .i64 x1) ∧ wx.cell? ⟨gT, 2, none⟩ = some (.int .i64 x2) := fun wx hx => by
                                        refine ⟨(hx.cell (p := ⟨gT, 0, none⟩) hTs).trans ?_, (hx.cell (p := ⟨gT, 1, none⟩) hTs).trans ?_, (hx.cell (p := ⟨gT, 2, none⟩) hTs).trans ?_⟩
                                        all_goals (rw [hWA, hgT, Joins.cell_of_block (World.alloc_heap_new wr _)]; rfl)
                                      exact h
                                    have LA : Hid (∀ wx, Below WA.heap.size WA wx → Lw w1 wx w1.heap.size q cw ci nF cf nG cg gF gG aw ai us is ks F G) := by
                                      have h : ∀ wx, Below WA.heap.size WA wx → Lw w1 wx w1.heap.size q cw ci nF cf nG cg gF gG aw ai us is ks F G := fun wx hx => LE.out _ (bA.trans (hx.mono bA.size))
                                      exact h
                                    have bd : Below WA.heap.size WA WA.drew := (Below.refl _ _).drew
                                    obtain ⟨t0, t1, t2⟩ := TQ.out _ (Below.refl _ _)
                                    have p0 := TQ.out _ bd
                                    obtain ⟨zz, hzz, hz256⟩ : ∃ zz : Nat, IntKind.u8.wrap x2 = (zz : Int) ∧ zz < 256 := ⟨(x2 % 256).toNat, by rw [IntKind.wrap_u8]; omega, by omega⟩
                                    have HWA : Hid (WA = wr.alloc (.cells #[.int .i64 x0, .int .i64 x1, .int .i64 x2] 49) ∧ gT = wr.heap.size) := ⟨hWA, hgT⟩
                                    clear hWA hgT bA LE HT
                                    by_cases hA : x0 = 1
                                    · as_aux_lemma =>
                                        subst hA
                                        by_cases hp0 : 0 < nF
                                        · have hp1 : (0 : Int) < (nF : Int) := by omega
                                          go_wp2
                                          rw [← HWA.out.1, ← HWA.out.2]
                                          go_region_held3 (fun wx => wx.cell? ⟨gT, 0, none⟩ = some (.int .i64 1) ∧ wx.cell? ⟨gT, 1, none⟩ = some (.int .i64 x1) ∧ wx.cell? ⟨gT, 2, none⟩ = some (.int .i64 x2)) (first | exact p0 | exact pS) (first | (go_at_call 30; refine Calls.mono (spot_any x1 nF hp0 (by omega) hxb1 _) ?_; rintro es ws ⟨⟨p, hp, rfl⟩, rfl⟩; have hp2 : (p : Int) < (nF : Int) := (by omega); have hpz : (0 : Int) ≤ (p : Int) := (by omega); have hcp := ownCell (LA.out _ bd).ownF.1 (show p < nF + 5 by omega); have hfp := ((LA.out _ bd).ownF.1).2.frozenAt p; have pS := (And.intro (store_cell (k := p) (z := zz) (LA.out _ (Below.refl _ _)).ownF.1 t0 hFT.1) (And.intro (store_cell (k := p) (z := zz) (LA.out _ (Below.refl _ _)).ownF.1 t1 hFT.1) (store_cell (k := p) (z := zz) (LA.out _ (Below.refl _ _)).ownF.1 t2 hFT.1)))))
                                          go_wp2
                                          exact ⟨⟨y + 1, ks, F.set p zz, G, by omega, by omega, by go_num, rfl, ((LA.out _ (Below.refl _ _)).setF hp hz256).later (Below.refl _ _).drew⟩, by simp [intOf]; omega⟩
                                        · obtain rfl : nF = 0 := by omega
                                          go_wp2
                                          exact ⟨⟨y + 1, ks, F, G, by omega, by omega, by go_num, rfl, HWA.out.1 ▸ LA.out _ (Below.refl _ _)⟩, by simp [intOf]; omega⟩
                                    · as_aux_lemma =>
                                        have hA2 : (x0 == 1) = false := by rw [beq_eq_false_iff_ne]; exact hA
                                        by_cases hB0 : x0 = 0
                                        · as_aux_lemma =>
                                            subst hB0
                                            by_cases hq0 : 0 < q
                                            · as_aux_lemma =>
                                                have hq1 : (0 : Int) < (q : Int) := by omega
                                                go_wp2_with (go_at_call 30; fail)
                                                refine Calls.mono (spot_any x2 q hq0 (by omega) hxb2 _) ?_
                                                rintro ej wj ⟨⟨j, hj, rfl⟩, rfl⟩
                                                have hj2 : (j : Int) < (q : Int) := by omega
                                                have hj0 : (0 : Int) ≤ (j : Int) := by omega
                                                obtain ⟨gi, gw, g, c, rfl, -, hci, -, hus, -, -⟩ := (LA.out _ (Below.refl _ _)).cellI hj
                                                have hgT2 := hKT.out j g c hj hus
                                                have hmN := (LA.out _ (Below.refl _ _)).ln j
                                                have OK : Hid (∀ wx, Below WA.heap.size WA wx → Own wx w1.heap.size (.slice (some ⟨g, 0, none⟩) ((ks.getD j []).length + 5) c) ((ks.getD j []).length + 5) (ks.getD j [] ++ marksL)) := by
                                                  have h : ∀ wx, Below WA.heap.size WA wx → Own wx w1.heap.size (.slice (some ⟨g, 0, none⟩) ((ks.getD j []).length + 5) c) ((ks.getD j []).length + 5) (ks.getD j [] ++ marksL) := fun wx hx => by
                                                    obtain ⟨g', c', h1, _, o⟩ := (LA.out _ hx).ownK hj
                                                    rw [hus] at h1
                                                    cases h1
                                                    exact o
                                                  exact h
                                                have HUS : Hid (us[j]? = some (.slice (some ⟨g, 0, none⟩) ((ks.getD j []).length + 5) c)) := hus
                                                clear hus
                                                obtain ⟨m, hm⟩ : ∃ m, m = (ks.getD j []).length := ⟨_, rfl⟩
                                                rw [← hm] at hci hmN OK
                                                have HM : Hid (m = (ks.getD j []).length) := hm
                                                clear hm
                                                rw [HWA.out.1] at hci
                                                by_cases hp0 : 0 < m
                                                · have hp1 : (0 : Int) < (m : Int) := by omega
                                                  go_wp2
                                                  rw [← HWA.out.1, ← HWA.out.2]
                                                  go_region_held3 (fun wx => wx.cell? ⟨gT, 0, none⟩ = some (.int .i64 0) ∧ wx.cell? ⟨gT, 1, none⟩ = some (.int .i64 x1) ∧ wx.cell? ⟨gT, 2, none⟩ = some (.int .i64 x2)) (first | exact p0 | exact pS) (first | (go_at_call 30; refine Calls.mono (spot_any x1 m hp0 (by omega) hxb1 _) ?_; rintro es ws ⟨⟨p, hp, rfl⟩, rfl⟩; have hp2 : (p : Int) < (m : Int) := (by omega); have hpz : (0 : Int) ≤ (p : Int) := (by omega); have hcp := ownCell (OK.out _ bd) (show p < m + 5 by omega); have hfp := ((OK.out _ bd)).2.frozenAt p; have pS := (And.intro (store_cell (k := p) (z := zz) (OK.out _ (Below.refl _ _)) t0 hgT2) (And.intro (store_cell (k := p) (z := zz) (OK.out _ (Below.refl _ _)) t1 hgT2) (store_cell (k := p) (z := zz) (OK.out _ (Below.refl _ _)) t2 hgT2)))))
                                                  go_wp2
                                                  exact ⟨⟨y + 1, ks.set j ((ks.getD j []).set p zz), F, G, by omega, by omega, by go_num, rfl, ((LA.out _ (Below.refl _ _)).setK hj HUS.out (by rw [← HM.out]; exact hp) hz256).later (Below.refl _ _).drew⟩, by simp [intOf]; omega⟩
                                                · obtain rfl : m = 0 := by omega
                                                  go_wp2
                                                  exact ⟨⟨y + 1, ks, F, G, by omega, by omega, by go_num, rfl, HWA.out.1 ▸ LA.out _ (Below.refl _ _)⟩, by simp [intOf]; omega⟩
                                            · as_aux_lemma =>
                                                have hq1 : ¬ ((0 : Int) < (q : Int)) := by omega
                                                by_cases hp0 : 0 < nG
                                                · have hp1 : (0 : Int) < (nG : Int) := by omega
                                                  go_wp2
                                                  rw [← HWA.out.1, ← HWA.out.2]
                                                  go_region_held3 (fun wx => wx.cell? ⟨gT, 0, none⟩ = some (.int .i64 0) ∧ wx.cell? ⟨gT, 1, none⟩ = some (.int .i64 x1) ∧ wx.cell? ⟨gT, 2, none⟩ = some (.int .i64 x2)) (first | exact p0 | exact pS) (first | (go_at_call 30; refine Calls.mono (spot_any x1 nG hp0 (by omega) hxb1 _) ?_; rintro es ws ⟨⟨p, hp, rfl⟩, rfl⟩; have hp2 : (p : Int) < (nG : Int) := (by omega); have hpz : (0 : Int) ≤ (p : Int) := (by omega); have hcp := ownCell (LA.out _ bd).ownF.2 (show p < nG + 5 by omega); have hfp := ((LA.out _ bd).ownF.2).2.frozenAt p; have pS := (And.intro (store_cell (k := p) (z := zz) (LA.out _ (Below.refl _ _)).ownF.2 t0 hFT.2) (And.intro (store_cell (k := p) (z := zz) (LA.out _ (Below.refl _ _)).ownF.2 t1 hFT.2) (store_cell (k := p) (z := zz) (LA.out _ (Below.refl _ _)).ownF.2 t2 hFT.2)))))
                                                  go_wp2
                                                  exact ⟨⟨y + 1, ks, F, G.set p zz, by omega, by omega, by go_num, rfl, ((LA.out _ (Below.refl _ _)).setG hp hz256).later (Below.refl _ _).drew⟩, by simp [intOf]; omega⟩
                                                · obtain rfl : nG = 0 := by omega
                                                  go_wp2
                                                  exact ⟨⟨y + 1, ks, F, G, by omega, by omega, by go_num, rfl, HWA.out.1 ▸ LA.out _ (Below.refl _ _)⟩, by simp [intOf]; omega⟩
                                        · as_aux_lemma =>
                                            have hB2 : (x0 == 0) = false := by rw [beq_eq_false_iff_ne]; exact hB0
                                            by_cases hp0 : 0 < nG
                                            · have hp1 : (0 : Int) < (nG : Int) := by omega
                                              go_wp2
                                              rw [← HWA.out.1, ← HWA.out.2]
                                              go_region_held3 (fun wx => wx.cell? ⟨gT, 0, none⟩ = some (.int .i64 x0) ∧ wx.cell? ⟨gT, 1, none⟩ = some (.int .i64 x1) ∧ wx.cell? ⟨gT, 2, none⟩ = some (.int .i64 x2)) (first | exact p0 | exact pS) (first | (go_at_call 30; refine Calls.mono (spot_any x1 nG hp0 (by omega) hxb1 _) ?_; rintro es ws ⟨⟨p, hp, rfl⟩, rfl⟩; have hp2 : (p : Int) < (nG : Int) := (by omega); have hpz : (0 : Int) ≤ (p : Int) := (by omega); have hcp := ownCell (LA.out _ bd).ownF.2 (show p < nG + 5 by omega); have hfp := ((LA.out _ bd).ownF.2).2.frozenAt p; have pS := (And.intro (store_cell (k := p) (z := zz) (LA.out _ (Below.refl _ _)).ownF.2 t0 hFT.2) (And.intro (store_cell (k := p) (z := zz) (LA.out _ (Below.refl _ _)).ownF.2 t1 hFT.2) (store_cell (k := p) (z := zz) (LA.out _ (Below.refl _ _)).ownF.2 t2 hFT.2)))))
                                              go_wp2
                                              exact ⟨⟨y + 1, ks, F, G.set p zz, by omega, by omega, by go_num, rfl, ((LA.out _ (Below.refl _ _)).setG hp hz256).later (Below.refl _ _).drew⟩, by simp [intOf]; omega⟩
                                            · obtain rfl : nG = 0 := by omega
                                              go_wp2
                                              exact ⟨⟨y + 1, ks, F, G, by omega, by omega, by go_num, rfl, HWA.out.1 ▸ LA.out _ (Below.refl _ _)⟩, by simp [intOf]; omega⟩
                                · obtain rfl : y = nt := by omega
                                  go_wp2_with (go_at_call 12; refine Calls.mono (started_any _) ?_; rintro e9 w9 ⟨rfl, b9⟩)
                                  go_ret
                                  exact ⟨rfl, BW.out _ (bW.trans (b9.mono bW.size))⟩
          · have hy4 : ¬ ((y : Int) ≤ 40) := by omega
            have bE := HBw.out _ (Below.refl _ _)
            go_wp2_with (go_at_call 12; refine Calls.mono (started_any _) ?_; rintro e9 w9 ⟨rfl, b9⟩)
            go_ret
            exact ⟨rfl, BW.out _ (bE.trans (b9.mono bE.size))⟩
end Go.Proofs.Ytieehdhinponcaa
