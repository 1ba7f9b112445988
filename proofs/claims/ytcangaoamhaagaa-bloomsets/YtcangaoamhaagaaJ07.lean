import Derived.Test.YtcangaoamhaagaaJ06
import Derived.Deep.RegionHeld3
namespace Go.Proofs.Ytcangaoamhaagaa
open Go.RowKit
set_option linter.unusedVariables false

theorem bld_bys (b : Int) (ks : List (List Nat)) : Bys (bldL b ks) ∧ (bldL b ks).length ≤ 3000000 := by
  rcases build_cases b ks with h | ⟨h, bn, rfl, h1, h2, h3⟩
  · have : bldL b ks = [] := by unfold bldL; rcases h with h | h <;> rw [h] <;> rfl
    rw [this]
    exact ⟨(fun x hx => by cases hx), by simp⟩
  · rw [h3]
    exact ⟨build_bys h1 h2, (build_len h1 h2).1⟩
theorem bld_append {b : Int} {ks qs : List (List Nat)} (h : bldE b (ks ++ qs).length = 0) : bldE b ks.length = 0 ∧ bldE b qs.length = 0 := by
  unfold bldE at h ⊢
  split at h
  · cases h
  · split at h
    · cases h
    · rename_i h1 h2
      simp at h2
      rw [if_neg h1, if_neg h1, if_neg (by omega), if_neg (by omega)]
      exact ⟨rfl, rfl⟩

set_option maxRecDepth 100000 in
set_option maxHeartbeats 4000000 in
theorem unions_walk {v1 v2 : Value} {ks qs : List (List Nat)} {w : World} (b : Int) (h1 : RdP w v1 ks) (h2 : RdP w v2 qs) (n1 : ∀ n c, v1 = .slice none n c → c = 0) (n2 : ∀ n c, v2 = .slice none n c → c = 0) (l1 : ks.length ≤ 1048576) (l2 : qs.length ≤ 1048576) :
    Calls Try.prog 5 #[.int .i64 b, v1, v2] w fun e w' => e = .returned (.bool true) ∧ Below w.heap.size w w' := by
  have H1 : Hid (RdP w v1 ks) := h1
  have H2 : Hid (RdP w v2 qs) := h2
  obtain ⟨a1, c1, rfl⟩ := own_rdp_len h1
  obtain ⟨a2, c2, rfl⟩ := own_rdp_len h2
  have HS : Hid (∀ wx : World, Calls Try.prog 12 #[] wx fun e w' => e = .returned (.bool true) ∧ Below wx.heap.size wx w') := started_any
  have HN : Hid (∀ (z : Int) (wx : World), Calls Try.prog 14 #[.int .i64 z] wx fun e w' => e = .returned (.int .i64 z) ∧ w' = wx) := num_any
  have HB1 : Hid (∀ wx : World, Below w.heap.size w wx → Calls Try.prog 13 #[.int .i64 b, .slice a1 ks.length c1] wx fun e w' => ∃ a m c, e = .returned (.tuple #[.slice a m c, .int .i64 ((bldE b ks.length : Nat) : Int)]) ∧ Own w' wx.heap.size (.slice a m c) m (bldL b ks) ∧ Below wx.heap.size wx w') := fun wx hx => build_any b (H1.out.later hx)
  have HB2 : Hid (∀ wx : World, Below w.heap.size w wx → Calls Try.prog 13 #[.int .i64 b, .slice a2 qs.length c2] wx fun e w' => ∃ a m c, e = .returned (.tuple #[.slice a m c, .int .i64 ((bldE b qs.length : Nat) : Int)]) ∧ Own w' wx.heap.size (.slice a m c) m (bldL b qs) ∧ Below wx.heap.size wx w') := fun wx hx => build_any b (H2.out.later hx)
  have HB3 : Hid (∀ (wx : World) (v : Value), RdP wx v (ks ++ qs) → Calls Try.prog 13 #[.int .i64 b, v] wx fun e w' => ∃ a m c, e = .returned (.tuple #[.slice a m c, .int .i64 ((bldE b (ks ++ qs).length : Nat) : Int)]) ∧ Own w' wx.heap.size (.slice a m c) m (bldL b (ks ++ qs)) ∧ Below wx.heap.size wx w') := fun wx v hv => build_any b hv
  obtain ⟨E1, hE1⟩ : ∃ E, E = bldE b ks.length := ⟨_, rfl⟩
  obtain ⟨E2, hE2⟩ : ∃ E, E = bldE b qs.length := ⟨_, rfl⟩
  obtain ⟨E3, hE3⟩ : ∃ E, E = bldE b (ks ++ qs).length := ⟨_, rfl⟩
  rw [← hE1] at HB1
  rw [← hE2] at HB2
  rw [← hE3] at HB3
  have HE : Hid (E1 = bldE b ks.length ∧ E2 = bldE b qs.length ∧ E3 = bldE b (ks ++ qs).length) := ⟨hE1, hE2, hE3⟩
  have HY1 := bld_bys b ks
  have HY2 := bld_bys b qs
  have HY3 := bld_bys b (ks ++ qs)
  have HY : Hid (Bys (bldL b ks) ∧ Bys (bldL b qs) ∧ Bys (bldL b (ks ++ qs))) := ⟨HY1.1, HY2.1, HY3.1⟩
  have q1 := HY1.2
  have q2 := HY2.2
  have q3 := HY3.2
  clear hE1 hE2 hE3 HY1 HY2 HY3
  have HROW1 : Hid (∀ wx : World, Below w.heap.size w wx → ∃ vs, ks.length = vs.length ∧ Row wx vs ks ∧ (vs = [] ∨ ∃ b off, a1 = some ⟨b, off, none⟩) ∧ ∀ x, a1 = some x → ∀ j u, vs[j]? = some u → wx.cell? (x.add j) = some u) := fun wx hx => by
    obtain ⟨vs, e1, e2, e3, e4⟩ := (H1.out.later hx).row
    exact ⟨vs, e2.1.symm, e2, e3.imp (fun h => List.eq_nil_of_length_eq_zero (by rw [e2.1, h]; rfl)) id, e4⟩
  have HROW2 : Hid (∀ wx : World, Below w.heap.size w wx → ∃ vs, qs.length = vs.length ∧ Row wx vs qs ∧ (vs = [] ∨ ∃ b off, a2 = some ⟨b, off, none⟩) ∧ ∀ x, a2 = some x → ∀ j u, vs[j]? = some u → wx.cell? (x.add j) = some u) := fun wx hx => by
    obtain ⟨vs, e1, e2, e3, e4⟩ := (H2.out.later hx).row
    exact ⟨vs, e2.1.symm, e2, e3.imp (fun h => List.eq_nil_of_length_eq_zero (by rw [e2.1, h]; rfl)) id, e4⟩
  have HC1 : Hid (a1 = none → c1 = 0) := fun h => n1 ks.length c1 (by rw [h])
  have HC2 : Hid (a2 = none → c2 = 0) := fun h => n2 qs.length c2 (by rw [h])
  obtain ⟨nk, hnk⟩ : ∃ nk, nk = ks.length := ⟨_, rfl⟩
  obtain ⟨nq, hnq⟩ : ∃ nq, nq = qs.length := ⟨_, rfl⟩
  have HNK : Hid (nk = ks.length ∧ nq = qs.length) := ⟨hnk, hnq⟩
  rw [← hnk] at HB1 HROW1 l1 ⊢
  rw [← hnq] at HB2 HROW2 l2 ⊢
  clear n1 n2 h1 h2 hnk hnq H1 H2
  by_cases hall : E1 = 0 ∧ E2 = 0 ∧ E3 = 0
  · obtain ⟨rfl, rfl, rfl⟩ := hall
    have hz := HE.out
    rcases build_cases b ks with hx | ⟨_, bn, rfl, hb20, hk20, hF⟩
    · omega
    rcases build_cases (bn : Int) qs with hx | ⟨_, bn2, hbe, _, hq20, hG⟩
    · omega
    rcases build_cases (bn : Int) (ks ++ qs) with hx | ⟨_, bn3, hbe3, _, ha20, hLL⟩
    · omega
    have ee : bn2 = bn ∧ bn3 = bn := by omega
    obtain ⟨rfl, rfl⟩ := ee
    rw [hF] at HB1 HY q1
    rw [hG] at HB2 HY q2
    rw [hLL] at HB3 HY q3
    have P1 : Hid (∀ h : (buildL bn3 ks).length = (buildL bn3 qs).length, (buildL bn3 ks).length = (buildL bn3 (ks ++ qs)).length → unionL (buildL bn3 ks) (buildL bn3 qs) = buildL bn3 (ks ++ qs)) := fun h h2 => union_all hb20 hk20 hq20 ha20 h h2
    have P2 : Hid ((uniE (buildL bn3 ks) (buildL bn3 qs) = 0) ↔ (buildL bn3 ks).length = (buildL bn3 qs).length) := uni_len hb20 hk20 hq20
    have P3 : Hid (uniL (buildL bn3 ks) (buildL bn3 qs) = uniL (buildL bn3 qs) (buildL bn3 ks)) := union_comm hb20 hk20 hq20
    have P4 := uni_or hb20 hk20 hq20
    have HXB0 : Bys (uniL (buildL bn3 ks) (buildL bn3 qs)) ∧ (uniL (buildL bn3 ks) (buildL bn3 qs)).length ≤ 7000000 := by
      unfold uniL
      split
      · refine ⟨unionL_bys HY.out.1 HY.out.2.1, ?_⟩
        unfold unionL
        simp only [List.length_append, List.length_take, List.length_zipWith, List.length_drop]
        omega
      · exact ⟨(fun x hx => by cases hx), by simp⟩
    have HAL : Hid (∀ (wx : World) (va vb : Value) (xs ys : List Nat), Rd wx va xs → Rd wx vb ys → Calls Try.prog 18 #[va, vb] wx fun e w' => e = .returned (.bool (decide (xs = ys))) ∧ w' = wx) := fun wx va vb xs ys ha hb => alike_any ha hb
    have HU1 : Hid (∀ (wx : World) (va vb : Value), Rd wx va (buildL bn3 ks) → Rd wx vb (buildL bn3 qs) → Calls Try.prog 15 #[va, vb] wx fun e w' => ∃ a m c, e = .returned (.tuple #[.slice a m c, .int .i64 ((uniE (buildL bn3 ks) (buildL bn3 qs) : Nat) : Int)]) ∧ Own w' wx.heap.size (.slice a m c) m (uniL (buildL bn3 ks) (buildL bn3 qs)) ∧ Below wx.heap.size wx w') := fun wx va vb ha hb => union_any ha hb
    have HU2 : Hid (∀ (wx : World) (va vb : Value), Rd wx va (buildL bn3 qs) → Rd wx vb (buildL bn3 ks) → Calls Try.prog 15 #[va, vb] wx fun e w' => ∃ a m c, e = .returned (.tuple #[.slice a m c, .int .i64 ((uniE (buildL bn3 ks) (buildL bn3 qs) : Nat) : Int)]) ∧ Own w' wx.heap.size (.slice a m c) m (uniL (buildL bn3 ks) (buildL bn3 qs)) ∧ Below wx.heap.size wx w') := fun wx va vb ha hb => by
      rw [P3.out, uni_comm]
      exact union_any ha hb
    have hXu : Hid (uniE (buildL bn3 ks) (buildL bn3 qs) = 0 → uniL (buildL bn3 ks) (buildL bn3 qs) = unionL (buildL bn3 ks) (buildL bn3 qs)) := fun h => by unfold uniL; rw [if_pos h]
    have HXB : Hid (Bys (uniL (buildL bn3 ks) (buildL bn3 qs))) := HXB0.1
    have hX7 := HXB0.2
    clear HXB0 hz hbe hbe3 hF hG hLL hb20 hk20 hq20 ha20 P3
    generalize buildL bn3 ks = F at *
    generalize buildL bn3 qs = G at *
    generalize buildL bn3 (ks ++ qs) = L at *
    generalize uniL F G = X at *
    rcases P4 with hu | hu
    · rw [hu] at HU1 HU2
      have hFG : Hid (F.length = G.length) := P2.out.1 hu
      by_cases hFL : F.length = L.length
      · have hXL0 : decide (X = L) = true := by rw [hXu.out hu, P1.out hFG.out hFL]; simp
        have hXL : Hid (decide (X = L) = true) := hXL0
        have HFL : Hid (F.length = L.length) := hFL
        clear hXL0 hFL
        go_enter Try.func5, Try.ntmps5
        go_wp2_with (first | (have Y5 := b7; go_at_call 15; refine Calls.mono (HU2.out _ _ _ rX.out.2.1 rX.out.1) ?_; rintro e8 w8 ⟨a11, m11, c11, rfl, own11, b8'⟩; have b8 : Below w.heap.size w w8 := b7.trans (b8'.mono b7.size); have rZ : Hid (Rd w8 (.slice a10 m10 c10) X ∧ Rd w8 (.slice a11 m11 c11) X ∧ Rd w8 (.slice a9 _ c9) L) := ⟨rX.out.2.2.2.later b8', own11.rd HXB.out (by rw [own11.1]; omega), rX.out.2.2.1.later b8'⟩) | (go_at_call 15; refine Calls.mono (HU1.out _ _ _ rR.out.1 rR.out.2.1) ?_; rintro e7 w7 ⟨a10, m10, c10, rfl, own10, b7'⟩; have b7 : Below w.heap.size w w7 := b6.trans (b7'.mono b6.size); have rX : Hid (Rd w7 (.slice a7 _ c7) F ∧ Rd w7 (.slice a8 _ c8) G ∧ Rd w7 (.slice a9 _ c9) L ∧ Rd w7 (.slice a10 m10 c10) X) := ⟨rR.out.1.later b7', rR.out.2.1.later b7', rR.out.2.2.later b7', own10.rd HXB.out (by rw [own10.1]; omega)⟩) | (go_at_call_of 18 (Value.slice a11 m11 c11); refine Calls.mono (HAL.out _ _ _ X X rZ.out.1 rZ.out.2.1) ?_; rintro ea wa ⟨rfl, rfl⟩; have dX : decide (X = X) = true := (by simp); rw [dX]) | (go_at_call_of 18 (Value.slice a9 m9 c9); refine Calls.mono (HAL.out _ _ _ X L rZ.out.1 rZ.out.2.2) ?_; rintro ea wa ⟨rfl, rfl⟩; rw [hXL.out]) | (go_at_call 12; refine Calls.mono (HS.out _) ?_; rintro e1 w1 ⟨rfl, b1⟩; obtain ⟨vs, e2, e3, e4, e5⟩ := HROW1.out _ b1; have R1 : Hid (nk = vs.length ∧ Row w1 vs ks ∧ (vs = [] ∨ ∃ b off, a1 = some ⟨b, off, none⟩) ∧ ∀ x, a1 = some x → ∀ j u, vs[j]? = some u → w1.cell? (x.add j) = some u) := ⟨e2, e3, e4, e5⟩; clear e2 e3 e4 e5; obtain ⟨us, e2, e3, e4, e5⟩ := HROW2.out _ b1; have R2 : Hid (nq = us.length ∧ Row w1 us qs ∧ (us = [] ∨ ∃ b off, a2 = some ⟨b, off, none⟩) ∧ ∀ x, a2 = some x → ∀ j u, us[j]? = some u → w1.cell? (x.add j) = some u) := ⟨e2, e3, e4, e5⟩; clear e2 e3 e4 e5) | (have X2 := own2; at_builtin; refine wpList_append_rows rfl _ _ rfl w1.heap.size _ _ _ vs rfl own2 a2 nq c2 us rfl R2.out.1 R2.out.2.1.one R2.out.2.2.1 (fun x hx j u hj => (b2.cell (World.block_lt_of_cell? _ _ (R2.out.2.2.2 x hx j u hj))).trans (R2.out.2.2.2 x hx j u hj)) HC2.out (by omega) b2.size ?_; intro a6 c6 w3 own3 b3'; have b3 : Below w.heap.size w w3 := b1.trans ((b2.trans b3').mono b1.size); have RL : Hid (RdP w3 (.slice a6 (nk + nq) c6) (ks ++ qs)) := rdp_own own3 ((R1.out.2.1.later (b2.trans b3')).append (R2.out.2.1.later (b2.trans b3'))) (by have := HNK.out; simp; omega) (by omega); clear own3 X2 own2) | (at_builtin; refine wpList_append_rows rfl _ _ rfl w1.heap.size none 0 0 [] rfl (World.ownsRow_nil _ _ _ _) a1 nk c1 vs rfl R1.out.1 R1.out.2.1.one R1.out.2.2.1 R1.out.2.2.2 HC1.out (by omega) (Nat.le_refl _) ?_; intro a5 c5 w2 own2 b2; rw [Nat.zero_add, List.nil_append] at own2) | (have Y4 := b5; go_at_call 13; refine Calls.mono (HB3.out _ _ (RL.out.later ((b4'.trans (b5'.mono b4'.size))))) ?_; rintro e6 w6 ⟨a9, m9, c9, rfl, own9, b6'⟩; have b6 : Below w.heap.size w w6 := b5.trans (b6'.mono b5.size); have rR : Hid (Rd w6 (.slice a7 m7 c7) F ∧ Rd w6 (.slice a8 m8 c8) G ∧ Rd w6 (.slice a9 m9 c9) L) := ⟨((own7.rd HY.out.1 (by rw [own7.1]; omega)).later b5').later b6', (own8.rd HY.out.2.1 (by rw [own8.1]; omega)).later b6', own9.rd HY.out.2.2 (by rw [own9.1]; omega)⟩; have em7 : m7 = F.length := own7.1; have em8 : m8 = G.length := own8.1; have em9 : m9 = L.length := own9.1; have e78 : m8 = m7 := (by rw [em8, em7]; exact hFG.out.symm); subst e78; have e79 : m9 = m8 := (by rw [em9, em7]; exact HFL.out.symm); subst e79; clear em7 em8 em9) | (have Y4 := b4; go_at_call 13; refine Calls.mono (HB2.out _ b4) ?_; rintro e5 w5 ⟨a8, m8, c8, rfl, own8, b5'⟩; have b5 : Below w.heap.size w w5 := b4.trans (b5'.mono b4.size)) | (go_at_call 13; refine Calls.mono (HB1.out _ b3) ?_; rintro e4 w4 ⟨a7, m7, c7, rfl, own7, b4'⟩; have b4 : Below w.heap.size w w4 := b3.trans (b4'.mono b3.size)) | (go_at_call 14; refine Calls.mono (HN.out _ _) ?_; rintro en wn ⟨rfl, rfl⟩))
        go_ret
        exact ⟨rfl, b8⟩
      · have hXL : Hid (decide (X = L) = decide (X = L)) := rfl
        have HFL : Hid (¬ F.length = L.length) := hFL
        clear hFL
        go_enter Try.func5, Try.ntmps5
        go_wp2_with (first | (have Y5 := b7; go_at_call 15; refine Calls.mono (HU2.out _ _ _ rX.out.2.1 rX.out.1) ?_; rintro e8 w8 ⟨a11, m11, c11, rfl, own11, b8'⟩; have b8 : Below w.heap.size w w8 := b7.trans (b8'.mono b7.size); have rZ : Hid (Rd w8 (.slice a10 m10 c10) X ∧ Rd w8 (.slice a11 m11 c11) X ∧ Rd w8 (.slice a9 _ c9) L) := ⟨rX.out.2.2.2.later b8', own11.rd HXB.out (by rw [own11.1]; omega), rX.out.2.2.1.later b8'⟩) | (go_at_call 15; refine Calls.mono (HU1.out _ _ _ rR.out.1 rR.out.2.1) ?_; rintro e7 w7 ⟨a10, m10, c10, rfl, own10, b7'⟩; have b7 : Below w.heap.size w w7 := b6.trans (b7'.mono b6.size); have rX : Hid (Rd w7 (.slice a7 _ c7) F ∧ Rd w7 (.slice a8 _ c8) G ∧ Rd w7 (.slice a9 _ c9) L ∧ Rd w7 (.slice a10 m10 c10) X) := ⟨rR.out.1.later b7', rR.out.2.1.later b7', rR.out.2.2.later b7', own10.rd HXB.out (by rw [own10.1]; omega)⟩) | (go_at_call_of 18 (Value.slice a11 m11 c11); refine Calls.mono (HAL.out _ _ _ X X rZ.out.1 rZ.out.2.1) ?_; rintro ea wa ⟨rfl, rfl⟩; have dX : decide (X = X) = true := (by simp); rw [dX]) | (go_at_call_of 18 (Value.slice a9 m9 c9); refine Calls.mono (HAL.out _ _ _ X L rZ.out.1 rZ.out.2.2) ?_; rintro ea wa ⟨rfl, rfl⟩; rw [hXL.out]) | (go_at_call 12; refine Calls.mono (HS.out _) ?_; rintro e1 w1 ⟨rfl, b1⟩; obtain ⟨vs, e2, e3, e4, e5⟩ := HROW1.out _ b1; have R1 : Hid (nk = vs.length ∧ Row w1 vs ks ∧ (vs = [] ∨ ∃ b off, a1 = some ⟨b, off, none⟩) ∧ ∀ x, a1 = some x → ∀ j u, vs[j]? = some u → w1.cell? (x.add j) = some u) := ⟨e2, e3, e4, e5⟩; clear e2 e3 e4 e5; obtain ⟨us, e2, e3, e4, e5⟩ := HROW2.out _ b1; have R2 : Hid (nq = us.length ∧ Row w1 us qs ∧ (us = [] ∨ ∃ b off, a2 = some ⟨b, off, none⟩) ∧ ∀ x, a2 = some x → ∀ j u, us[j]? = some u → w1.cell? (x.add j) = some u) := ⟨e2, e3, e4, e5⟩; clear e2 e3 e4 e5) | (have X2 := own2; at_builtin; refine wpList_append_rows rfl _ _ rfl w1.heap.size _ _ _ vs rfl own2 a2 nq c2 us rfl R2.out.1 R2.out.2.1.one R2.out.2.2.1 (fun x hx j u hj => (b2.cell (World.block_lt_of_cell? _ _ (R2.out.2.2.2 x hx j u hj))).trans (R2.out.2.2.2 x hx j u hj)) HC2.out (by omega) b2.size ?_; intro a6 c6 w3 own3 b3'; have b3 : Below w.heap.size w w3 := b1.trans ((b2.trans b3').mono b1.size); have RL : Hid (RdP w3 (.slice a6 (nk + nq) c6) (ks ++ qs)) := rdp_own own3 ((R1.out.2.1.later (b2.trans b3')).append (R2.out.2.1.later (b2.trans b3'))) (by have := HNK.out; simp; omega) (by omega); clear own3 X2 own2) | (at_builtin; refine wpList_append_rows rfl _ _ rfl w1.heap.size none 0 0 [] rfl (World.ownsRow_nil _ _ _ _) a1 nk c1 vs rfl R1.out.1 R1.out.2.1.one R1.out.2.2.1 R1.out.2.2.2 HC1.out (by omega) (Nat.le_refl _) ?_; intro a5 c5 w2 own2 b2; rw [Nat.zero_add, List.nil_append] at own2) | (have Y4 := b5; go_at_call 13; refine Calls.mono (HB3.out _ _ (RL.out.later ((b4'.trans (b5'.mono b4'.size))))) ?_; rintro e6 w6 ⟨a9, m9, c9, rfl, own9, b6'⟩; have b6 : Below w.heap.size w w6 := b5.trans (b6'.mono b5.size); have rR : Hid (Rd w6 (.slice a7 m7 c7) F ∧ Rd w6 (.slice a8 m8 c8) G ∧ Rd w6 (.slice a9 m9 c9) L) := ⟨((own7.rd HY.out.1 (by rw [own7.1]; omega)).later b5').later b6', (own8.rd HY.out.2.1 (by rw [own8.1]; omega)).later b6', own9.rd HY.out.2.2 (by rw [own9.1]; omega)⟩; have em7 : m7 = F.length := own7.1; have em8 : m8 = G.length := own8.1; have em9 : m9 = L.length := own9.1; have e78 : m8 = m7 := (by rw [em8, em7]; exact hFG.out.symm); subst e78; have n1 : ((m8 : Int) != (m9 : Int)) = true := (by have := HFL.out; rw [bne_iff_ne]; omega); have n2 : ¬ ((m8 : Int) = (m9 : Int)) := (by have := HFL.out; omega); clear em7 em8 em9) | (have Y4 := b4; go_at_call 13; refine Calls.mono (HB2.out _ b4) ?_; rintro e5 w5 ⟨a8, m8, c8, rfl, own8, b5'⟩; have b5 : Below w.heap.size w w5 := b4.trans (b5'.mono b4.size)) | (go_at_call 13; refine Calls.mono (HB1.out _ b3) ?_; rintro e4 w4 ⟨a7, m7, c7, rfl, own7, b4'⟩; have b4 : Below w.heap.size w w4 := b3.trans (b4'.mono b3.size)) | (go_at_call 14; refine Calls.mono (HN.out _ _) ?_; rintro en wn ⟨rfl, rfl⟩))
        go_ret
        exact ⟨rfl, b8⟩
    · rw [hu] at HU1 HU2
      have hFG : Hid (¬ F.length = G.length) := fun h => by have := P2.out.2 h; omega
      have hXL : Hid (decide (X = L) = decide (X = L)) := rfl
      go_enter Try.func5, Try.ntmps5
      go_wp2_with (first | (have Y5 := b7; go_at_call 15; refine Calls.mono (HU2.out _ _ _ rX.out.2.1 rX.out.1) ?_; rintro e8 w8 ⟨a11, m11, c11, rfl, own11, b8'⟩; have b8 : Below w.heap.size w w8 := b7.trans (b8'.mono b7.size); have rZ : Hid (Rd w8 (.slice a10 m10 c10) X ∧ Rd w8 (.slice a11 m11 c11) X ∧ Rd w8 (.slice a9 _ c9) L) := ⟨rX.out.2.2.2.later b8', own11.rd HXB.out (by rw [own11.1]; omega), rX.out.2.2.1.later b8'⟩) | (go_at_call 15; refine Calls.mono (HU1.out _ _ _ rR.out.1 rR.out.2.1) ?_; rintro e7 w7 ⟨a10, m10, c10, rfl, own10, b7'⟩; have b7 : Below w.heap.size w w7 := b6.trans (b7'.mono b6.size); have rX : Hid (Rd w7 (.slice a7 _ c7) F ∧ Rd w7 (.slice a8 _ c8) G ∧ Rd w7 (.slice a9 _ c9) L ∧ Rd w7 (.slice a10 m10 c10) X) := ⟨rR.out.1.later b7', rR.out.2.1.later b7', rR.out.2.2.later b7', own10.rd HXB.out (by rw [own10.1]; omega)⟩) | (go_at_call_of 18 (Value.slice a11 m11 c11); refine Calls.mono (HAL.out _ _ _ X X rZ.out.1 rZ.out.2.1) ?_; rintro ea wa ⟨rfl, rfl⟩; have dX : decide (X = X) = true := (by simp); rw [dX]) | (go_at_call_of 18 (Value.slice a9 m9 c9); refine Calls.mono (HAL.out _ _ _ X L rZ.out.1 rZ.out.2.2) ?_; rintro ea wa ⟨rfl, rfl⟩; rw [hXL.out]) | (go_at_call 12; refine Calls.mono (HS.out _) ?_; rintro e1 w1 ⟨rfl, b1⟩; obtain ⟨vs, e2, e3, e4, e5⟩ := HROW1.out _ b1; have R1 : Hid (nk = vs.length ∧ Row w1 vs ks ∧ (vs = [] ∨ ∃ b off, a1 = some ⟨b, off, none⟩) ∧ ∀ x, a1 = some x → ∀ j u, vs[j]? = some u → w1.cell? (x.add j) = some u) := ⟨e2, e3, e4, e5⟩; clear e2 e3 e4 e5; obtain ⟨us, e2, e3, e4, e5⟩ := HROW2.out _ b1; have R2 : Hid (nq = us.length ∧ Row w1 us qs ∧ (us = [] ∨ ∃ b off, a2 = some ⟨b, off, none⟩) ∧ ∀ x, a2 = some x → ∀ j u, us[j]? = some u → w1.cell? (x.add j) = some u) := ⟨e2, e3, e4, e5⟩; clear e2 e3 e4 e5) | (have X2 := own2; at_builtin; refine wpList_append_rows rfl _ _ rfl w1.heap.size _ _ _ vs rfl own2 a2 nq c2 us rfl R2.out.1 R2.out.2.1.one R2.out.2.2.1 (fun x hx j u hj => (b2.cell (World.block_lt_of_cell? _ _ (R2.out.2.2.2 x hx j u hj))).trans (R2.out.2.2.2 x hx j u hj)) HC2.out (by omega) b2.size ?_; intro a6 c6 w3 own3 b3'; have b3 : Below w.heap.size w w3 := b1.trans ((b2.trans b3').mono b1.size); have RL : Hid (RdP w3 (.slice a6 (nk + nq) c6) (ks ++ qs)) := rdp_own own3 ((R1.out.2.1.later (b2.trans b3')).append (R2.out.2.1.later (b2.trans b3'))) (by have := HNK.out; simp; omega) (by omega); clear own3 X2 own2) | (at_builtin; refine wpList_append_rows rfl _ _ rfl w1.heap.size none 0 0 [] rfl (World.ownsRow_nil _ _ _ _) a1 nk c1 vs rfl R1.out.1 R1.out.2.1.one R1.out.2.2.1 R1.out.2.2.2 HC1.out (by omega) (Nat.le_refl _) ?_; intro a5 c5 w2 own2 b2; rw [Nat.zero_add, List.nil_append] at own2) | (have Y4 := b5; go_at_call 13; refine Calls.mono (HB3.out _ _ (RL.out.later ((b4'.trans (b5'.mono b4'.size))))) ?_; rintro e6 w6 ⟨a9, m9, c9, rfl, own9, b6'⟩; have b6 : Below w.heap.size w w6 := b5.trans (b6'.mono b5.size); have rR : Hid (Rd w6 (.slice a7 m7 c7) F ∧ Rd w6 (.slice a8 m8 c8) G ∧ Rd w6 (.slice a9 m9 c9) L) := ⟨((own7.rd HY.out.1 (by rw [own7.1]; omega)).later b5').later b6', (own8.rd HY.out.2.1 (by rw [own8.1]; omega)).later b6', own9.rd HY.out.2.2 (by rw [own9.1]; omega)⟩; have em7 : m7 = F.length := own7.1; have em8 : m8 = G.length := own8.1; have em9 : m9 = L.length := own9.1; have n1 : ((m7 : Int) == (m8 : Int)) = false := (by have := hFG.out; rw [beq_eq_false_iff_ne]; omega); have n2 : ¬ ((m7 : Int) = (m8 : Int)) := (by have := hFG.out; omega); clear em7 em8 em9) | (have Y4 := b4; go_at_call 13; refine Calls.mono (HB2.out _ b4) ?_; rintro e5 w5 ⟨a8, m8, c8, rfl, own8, b5'⟩; have b5 : Below w.heap.size w w5 := b4.trans (b5'.mono b4.size)) | (go_at_call 13; refine Calls.mono (HB1.out _ b3) ?_; rintro e4 w4 ⟨a7, m7, c7, rfl, own7, b4'⟩; have b4 : Below w.heap.size w w4 := b3.trans (b4'.mono b3.size)) | (go_at_call 14; refine Calls.mono (HN.out _ _) ?_; rintro en wn ⟨rfl, rfl⟩))
      go_ret
      exact ⟨rfl, b8⟩
  · have HA : Hid (¬ (E1 = 0 ∧ E2 = 0 ∧ E3 = 0)) := hall
    clear hall
    go_enter Try.func5, Try.ntmps5
    go_wp2_with (first | (go_at_call 12; refine Calls.mono (HS.out _) ?_; rintro e1 w1 ⟨rfl, b1⟩; obtain ⟨vs, e2, e3, e4, e5⟩ := HROW1.out _ b1; have R1 : Hid (nk = vs.length ∧ Row w1 vs ks ∧ (vs = [] ∨ ∃ b off, a1 = some ⟨b, off, none⟩) ∧ ∀ x, a1 = some x → ∀ j u, vs[j]? = some u → w1.cell? (x.add j) = some u) := ⟨e2, e3, e4, e5⟩; clear e2 e3 e4 e5; obtain ⟨us, e2, e3, e4, e5⟩ := HROW2.out _ b1; have R2 : Hid (nq = us.length ∧ Row w1 us qs ∧ (us = [] ∨ ∃ b off, a2 = some ⟨b, off, none⟩) ∧ ∀ x, a2 = some x → ∀ j u, us[j]? = some u → w1.cell? (x.add j) = some u) := ⟨e2, e3, e4, e5⟩; clear e2 e3 e4 e5) | (have X2 := own2; at_builtin; refine wpList_append_rows rfl _ _ rfl w1.heap.size _ _ _ vs rfl own2 a2 nq c2 us rfl R2.out.1 R2.out.2.1.one R2.out.2.2.1 (fun x hx j u hj => (b2.cell (World.block_lt_of_cell? _ _ (R2.out.2.2.2 x hx j u hj))).trans (R2.out.2.2.2 x hx j u hj)) HC2.out (by omega) b2.size ?_; intro a6 c6 w3 own3 b3'; have b3 : Below w.heap.size w w3 := b1.trans ((b2.trans b3').mono b1.size); have RL : Hid (RdP w3 (.slice a6 (nk + nq) c6) (ks ++ qs)) := rdp_own own3 ((R1.out.2.1.later (b2.trans b3')).append (R2.out.2.1.later (b2.trans b3'))) (by have := HNK.out; simp; omega) (by omega); clear own3 X2 own2) | (at_builtin; refine wpList_append_rows rfl _ _ rfl w1.heap.size none 0 0 [] rfl (World.ownsRow_nil _ _ _ _) a1 nk c1 vs rfl R1.out.1 R1.out.2.1.one R1.out.2.2.1 R1.out.2.2.2 HC1.out (by omega) (Nat.le_refl _) ?_; intro a5 c5 w2 own2 b2; rw [Nat.zero_add, List.nil_append] at own2) | (have Y4 := b5; go_at_call 13; refine Calls.mono (HB3.out _ _ (RL.out.later ((b4'.trans (b5'.mono b4'.size))))) ?_; rintro e6 w6 ⟨a9, m9, c9, rfl, own9, b6'⟩; have b6 : Below w.heap.size w w6 := b5.trans (b6'.mono b5.size)) | (have Y4 := b4; go_at_call 13; refine Calls.mono (HB2.out _ b4) ?_; rintro e5 w5 ⟨a8, m8, c8, rfl, own8, b5'⟩; have b5 : Below w.heap.size w w5 := b4.trans (b5'.mono b4.size)) | (go_at_call 13; refine Calls.mono (HB1.out _ b3) ?_; rintro e4 w4 ⟨a7, m7, c7, rfl, own7, b4'⟩; have b4 : Below w.heap.size w w4 := b3.trans (b4'.mono b3.size)) | (go_at_call 14; refine Calls.mono (HN.out _ _) ?_; rintro en wn ⟨rfl, rfl⟩))
    all_goals first
      | (go_ret; exact ⟨rfl, b6⟩)
      | (exfalso; have hz : ((E3 : Int) != 0) = false := (by assumption); exact HA.out ⟨by omega, by omega, by simpa using hz⟩)
end Go.Proofs.Ytcangaoamhaagaa

namespace Go.Proofs.Ytcangaoamhaagaa
open Go.RowKit
set_option linter.unusedVariables false

def cntN (m : Nat) (S : Nat → Bool) : Nat := (List.range m).countP S
theorem cntN_mono {m : Nat} {S T : Nat → Bool} (h : ∀ i, i < m → S i = true → T i = true) : cntN m S ≤ cntN m T :=
  List.countP_mono_left fun i hi hs => h i (by simpa using hi) hs
theorem cntN_or (m : Nat) (S T : Nat → Bool) : cntN m (fun i => S i || T i) ≤ cntN m S + cntN m T := by
  unfold cntN
  induction List.range m with
  | nil => simp
  | cons a l ih =>
    simp only [List.countP_cons]
    cases S a <;> cases T a <;> simp <;> omega
theorem cntN_one (m a : Nat) : cntN m (fun i => i == a) ≤ 1 := by
  have h : (List.range m).countP (fun i => i == a) = (List.range m).count a := rfl
  unfold cntN
  rw [h]
  exact List.nodup_iff_count.1 List.nodup_range a
theorem cntN_list (m : Nat) (l : List Nat) : cntN m (fun i => l.contains i) ≤ l.length := by
  induction l with
  | nil => simp [cntN]
  | cons a l ih =>
    have e : (fun i => (a :: l).contains i) = fun i => (i == a) || l.contains i := by
      funext i
      rw [List.contains_cons]
    rw [e]
    have h1 := cntN_or m (fun i => i == a) (fun i => l.contains i)
    have h2 := cntN_one m a
    simp only [List.length_cons]
    omega
theorem cntN_keys (ks : List (List Nat)) (p m : Nat) : cntN m (keyS ks p m) ≤ p * ks.length := by
  induction ks with
  | nil => simp [cntN, keyS]
  | cons k ks ih =>
    have e : keyS (k :: ks) p m = fun i => (placesN k p m).contains i || keyS ks p m i := by funext i; simp [keyS]
    rw [e]
    have h1 := cntN_or m (fun i => (placesN k p m).contains i) (keyS ks p m)
    have h2 := cntN_list m (placesN k p m)
    have h3 : (placesN k p m).length = p := by simp [placesN]
    rw [List.length_cons, Nat.mul_succ]
    omega
theorem onesN_byte (S : Nat → Bool) (q : Nat) : onesN (byteS S q) = (S (8 * q)).toNat + (S (8 * q + 1)).toNat + (S (8 * q + 2)).toNat + (S (8 * q + 3)).toNat + (S (8 * q + 4)).toNat + (S (8 * q + 5)).toNat + (S (8 * q + 6)).toNat + (S (8 * q + 7)).toNat := by
  have e : List.range 8 = [0, 1, 2, 3, 4, 5, 6, 7] := by decide
  have b0 := byteS_bit S q 0 (by decide)
  have b1 := byteS_bit S q 1 (by decide)
  have b2 := byteS_bit S q 2 (by decide)
  have b3 := byteS_bit S q 3 (by decide)
  have b4 := byteS_bit S q 4 (by decide)
  have b5 := byteS_bit S q 5 (by decide)
  have b6 := byteS_bit S q 6 (by decide)
  have b7 := byteS_bit S q 7 (by decide)
  simp only [Nat.reduceSub, Nat.add_zero] at b0 b1 b2 b3 b4 b5 b6 b7
  simp only [onesN, e, List.foldl_cons, List.foldl_nil, b0, b1, b2, b3, b4, b5, b6, b7]
  omega
theorem onesB_body (S : Nat → Bool) : ∀ q, onesB ((List.range q).map (byteS S)) = cntN (8 * q) S := by
  intro q
  induction q with
  | zero => rfl
  | succ q ih =>
    rw [List.range_succ, List.map_append, List.map_cons, List.map_nil, onesB_snoc, ih, onesN_byte]
    have e : List.range (8 * (q + 1)) = List.range (8 * q) ++ [8 * q, 8 * q + 1, 8 * q + 2, 8 * q + 3, 8 * q + 4, 8 * q + 5, 8 * q + 6, 8 * q + 7] := by
      rw [show 8 * (q + 1) = 8 * q + 1 + 1 + 1 + 1 + 1 + 1 + 1 + 1 by omega]
      simp only [List.range_succ, List.append_assoc, List.cons_append, List.nil_append]
    unfold cntN
    rw [e, List.countP_append]
    simp only [List.countP_cons, List.countP_nil]
    have h : ∀ b : Bool, (if b = true then 1 else 0) = b.toNat := by decide
    simp only [h]
    omega
theorem ones_filt {p m : Nat} (S : Nat → Bool) (hp : 1 ≤ p ∧ p ≤ 14) (hm : 64 ≤ m ∧ m ≤ 20971520 ∧ m % 8 = 0) : onesL (filt p m S) = cntN m S := by
  unfold onesL
  rw [(good_filt S hp hm).1, if_pos rfl]
  have e : (filt p m S).drop 6 = (List.range (m / 8)).map (byteS S) := by simp [filt, headL, bodyS]
  show onesB ((filt p m S).drop 6) = _
  rw [e, onesB_body, show 8 * (m / 8) = m by omega]

/-- Lists of the same keys. -/
theorem sub_len {α : Type} [DecidableEq α] : ∀ {l k : List α}, l.Nodup → (∀ x ∈ l, x ∈ k) → l.length ≤ k.length
  | [], _, _, _ => by simp
  | a :: l, k, hn, hs => by
    have ha : a ∈ k := hs a (by simp)
    have h1 : l.length ≤ (k.erase a).length := sub_len (List.nodup_cons.1 hn).2 (fun x hx => by
      have hne : x ≠ a := fun e => (List.nodup_cons.1 hn).1 (by rw [← e]; exact hx)
      exact (List.mem_erase_of_ne hne).2 (hs x (by simp [hx])))
    rw [List.length_erase_of_mem ha] at h1
    have : 0 < k.length := List.length_pos_of_mem ha
    simp only [List.length_cons]
    omega
theorem uniq_sub {a b : List (List Nat)} (h : ∀ x ∈ a, x ∈ b) : (uniq a).length ≤ (uniq b).length :=
  sub_len (uniq_nodup a) fun x hx => mem_uniq.2 (h x (mem_uniq.1 hx))
theorem keyS_sub {a b : List (List Nat)} (h : ∀ x ∈ a, x ∈ b) (p m i : Nat) (hs : keyS a p m i = true) : keyS b p m i = true := by
  unfold keyS at hs ⊢
  rw [List.any_eq_true] at hs ⊢
  obtain ⟨k, hk, h2⟩ := hs
  exact ⟨k, h k hk, h2⟩
theorem build_same {a b : List (List Nat)} (n : Nat) (h : ∀ x, x ∈ a ↔ x ∈ b) : buildL n a = buildL n b := by
  unfold buildL
  have e : (uniq a).length = (uniq b).length := Nat.le_antisymm (uniq_sub fun x hx => (h x).1 hx) (uniq_sub fun x hx => (h x).2 hx)
  rw [e]
  congr 1
  funext i
  rw [Bool.eq_iff_iff]
  exact ⟨keyS_sub (fun x hx => (h x).1 hx) _ _ i, keyS_sub (fun x hx => (h x).2 hx) _ _ i⟩
theorem mOf_mono {b n n' : Nat} (h : n ≤ n') : mOf b n ≤ mOf b n' := by
  have : n * b ≤ n' * b := Nat.mul_le_mul_right b h
  unfold mOf
  omega
theorem byteS_sub {S T : Nat → Bool} {q : Nat} (h : ∀ k, k < 8 → S (8 * q + k) = true → T (8 * q + k) = true) : byteS S q &&& byteS T q = byteS S q := by
  refine byte_ext (Nat.lt_of_le_of_lt Nat.and_le_left (byteS_lt _ _)) (byteS_lt _ _) fun k hk => ?_
  rw [Nat.testBit_and, byteS_bit S q k hk, byteS_bit T q k hk]
  have := h k hk
  cases hs : S (8 * q + k) with
  | false => rfl
  | true => rw [this hs]; rfl
/-- What BloomSets asks of a filter and of one of fewer keys. -/
theorem sets_pure {b : Nat} {ks hs : List (List Nat)} (hb : b ≤ 20) (hn : ks.length ≤ 1048576) (hh : hs.length ≤ 1048576) (hsub : ∀ x ∈ hs, x ∈ ks) (hne : ks ≠ []) :
    (buildL b hs).length ≤ (buildL b ks).length ∧
    ((buildL b hs).length = (buildL b ks).length → ∀ k, k < (buildL b ks).length → (6 ≤ k → (buildL b hs).getD k 0 &&& (buildL b ks).getD k 0 = (buildL b hs).getD k 0) ∧ (k < 6 → (buildL b hs).getD k 0 = (buildL b ks).getD k 0)) ∧
    1 ≤ onesL (buildL b ks) ∧ onesL (buildL b ks) ≤ (buildL b ks).getD 1 0 * ks.length ∧ ((buildL b hs).length = (buildL b ks).length → onesL (buildL b hs) ≤ onesL (buildL b ks)) ∧ onesL (buildL b ks) ≤ 20971520 := by
  have hp := pOf_le hb
  have hm1 := mOf_le (n := (uniq ks).length) hb (Nat.le_trans (uniq_le ks) hn)
  have hm2 := mOf_le (n := (uniq hs).length) hb (Nat.le_trans (uniq_le hs) hh)
  have hmm := mOf_mono (b := b) (uniq_sub hsub)
  have e1 : (buildL b ks).length = 6 + mOf b (uniq ks).length / 8 := filt_length _ _ _
  have e2 : (buildL b hs).length = 6 + mOf b (uniq hs).length / 8 := filt_length _ _ _
  have o1 : onesL (buildL b ks) = cntN _ _ := ones_filt _ hp hm1
  have o2 : onesL (buildL b hs) = cntN _ _ := ones_filt _ hp hm2
  have hmeq : (buildL b hs).length = (buildL b ks).length → mOf b (uniq hs).length = mOf b (uniq ks).length := fun h => by omega
  refine ⟨by omega, fun hl k hk => ?_, ?_, ?_, fun hl => ?_, ?_⟩
  · have hme := hmeq hl
    refine ⟨fun h6 => ?_, fun h6 => ?_⟩
    · have key : ∀ (L : List (List Nat)), mOf b (uniq L).length = mOf b (uniq ks).length → (buildL b L).getD k 0 = byteS (keyS L (pOf b) (mOf b (uniq ks).length)) (k - 6) := by
        intro L hL
        unfold buildL
        rw [hL]
        rw [← bodyS_get (mOf b (uniq ks).length) _ (k - 6) (by omega)]
        have hd : (headL (pOf b) (mOf b (uniq ks).length)).length = 6 := rfl
        unfold filt List.getD
        rw [List.getElem?_append_right (by omega), hd]
      rw [key hs hme, key ks rfl]
      exact byteS_sub fun j _ h => keyS_sub hsub _ _ _ h
    · unfold buildL filt List.getD
      rw [hme, List.getElem?_append_left (by simpa [headL] using h6), List.getElem?_append_left (by simpa [headL] using h6)]
  · rw [o1]
    obtain ⟨k, ks', rfl⟩ := List.exists_cons_of_ne_nil hne
    unfold cntN
    refine List.countP_pos_iff.2 ⟨placeN k (mOf b (uniq (k :: ks')).length) 0, by simpa using placeN_lt k (by omega) 0, ?_⟩
    unfold keyS
    rw [List.any_eq_true]
    refine ⟨k, by simp, ?_⟩
    simp only [placesN, List.contains_eq_mem, List.mem_map, List.mem_range, decide_eq_true_eq]
    exact ⟨0, by omega, rfl⟩
  · rw [o1]
    have e : (buildL b ks).getD 1 0 = pOf b := by unfold buildL; simp [filt, headL]
    rw [e]
    exact cntN_keys ks _ _
  · rw [o1, o2, hmeq hl]
    exact cntN_mono fun i _ h => keyS_sub hsub _ _ _ h
  · rw [o1]
    refine Nat.le_trans (List.countP_le_length) ?_
    simp
    omega
end Go.Proofs.Ytcangaoamhaagaa

namespace Go.Proofs.Ytcangaoamhaagaa
open Go.RowKit
set_option linter.unusedVariables false

/-- The cells of a list that came in, one by one. -/
theorem RdP.cells {w : World} {b off n cap : Nat} {ps : List (List Nat)} (h : RdP w (.slice (some ⟨b, off, none⟩) n cap) ps) : ∃ vs, n = ps.length ∧ Row w vs ps ∧ ∀ j u, vs[j]? = some u → w.cell? ⟨b, off + j, none⟩ = some u := by
  obtain ⟨vs, h1, h2, _, h4⟩ := h.row
  refine ⟨vs, h1, h2, fun j u hj => ?_⟩
  have := h4 _ rfl j u hj
  have e : (⟨b, off, none⟩ : Addr).add j = ⟨b, off + j, none⟩ := by unfold Addr.add; split <;> simp_all
  rwa [e] at this
theorem Row.take {w : World} {vs : List Value} {ps : List (List Nat)} (h : Row w vs ps) (i : Nat) : Row w (vs.take i) (ps.take i) := by
  refine ⟨by simp [h.1], fun j hj => ?_⟩
  have hj2 : j < i ∧ j < ps.length := by simp at hj; omega
  obtain ⟨u, h1, h2⟩ := h.2 j hj2.2
  refine ⟨u, by rw [List.getElem?_take_of_lt hj2.1]; exact h1, ?_⟩
  rw [show (ps.take i).getD j [] = ps.getD j [] by simp [List.getD, List.getElem?_take_of_lt hj2.1]]
  exact h2
theorem Row.drop {w : World} {vs : List Value} {ps : List (List Nat)} (h : Row w vs ps) (i : Nat) : Row w (vs.drop i) (ps.drop i) := by
  refine ⟨by simp [h.1], fun j hj => ?_⟩
  have hj2 : i + j < ps.length := by simp at hj; omega
  obtain ⟨u, h1, h2⟩ := h.2 _ hj2
  refine ⟨u, by rw [List.getElem?_drop]; exact h1, ?_⟩
  rw [show (ps.drop i).getD j [] = ps.getD (i + j) [] by simp [List.getD]]
  exact h2

set_option maxRecDepth 100000 in
set_option maxHeartbeats 2000000 in
theorem without_any {b off n cap : Nat} {ks : List (List Nat)} {w : World} (h : RdP w (.slice (some ⟨b, off, none⟩) n cap) ks) (hc : n ≤ cap) (hcm : cap ≤ maxLen) (hn : n ≤ 1048576) (i : Nat) (hi : i < n) :
    Calls Try.prog 19 #[.slice (some ⟨b, off, none⟩) n cap, .int .i64 (i : Int)] w fun e w' => ∃ a m c, e = .returned (.slice a m c) ∧ RdP w' (.slice a m c) (ks.take i ++ ks.drop (i + 1)) ∧ Below w.heap.size w w' := by
  obtain ⟨vs, hl, hrow, hcell⟩ := h.cells
  have H : Hid (n = ks.length ∧ Row w vs ks ∧ ∀ j u, vs[j]? = some u → w.cell? ⟨b, off + j, none⟩ = some u) := ⟨hl, hrow, hcell⟩
  have hvl : vs.length = n := by rw [hrow.1, hl]
  have HV : Hid (vs.length = n) := hvl
  clear h hl hrow hcell hvl
  have add : ∀ o j : Nat, (⟨b, o, none⟩ : Addr).add j = ⟨b, o + j, none⟩ := fun o j => by unfold Addr.add; split <;> simp_all
  have i0 : (0 : Int) ≤ (i : Int) := by omega
  have i1 : (i : Int) ≤ (cap : Int) := by omega
  have i2 : (i : Int) + 1 ≤ (n : Int) := by omega
  unfold maxLen at hcm
  have C1 : Hid (∀ wx : World, Below w.heap.size w wx → ∀ x, some (⟨b, off, none⟩ : Addr) = some x → ∀ j u, (vs.take i)[j]? = some u → wx.cell? (x.add j) = some u) := by
    rintro wx hx x hxx j u hj
    cases hxx
    rw [add]
    have hji : j < i := by have := (List.getElem?_eq_some_iff.1 hj).1; simp at this; omega
    rw [List.getElem?_take_of_lt hji] at hj
    have hc := H.out.2.2 j u hj
    exact (hx.cell (p := ⟨b, off + j, none⟩) (World.block_lt_of_cell? _ _ hc)).trans hc
  have C2 : Hid (∀ wx : World, Below w.heap.size w wx → ∀ (o : Nat), (o = off + (i + 1) ∨ vs.drop (i + 1) = []) → ∀ x, some (⟨b, o, none⟩ : Addr) = some x → ∀ j u, (vs.drop (i + 1))[j]? = some u → wx.cell? (x.add j) = some u) := by
    rintro wx hx o ho x hxx j u hj
    cases hxx
    rcases ho with rfl | ho
    · rw [add]
      rw [List.getElem?_drop] at hj
      have hc := H.out.2.2 _ u hj
      rw [← Nat.add_assoc] at hc
      exact (hx.cell (p := ⟨b, off + (i + 1) + j, none⟩) (World.block_lt_of_cell? _ _ hc)).trans hc
    · rw [ho] at hj; simp at hj
  by_cases hce : cap = i + 1
  · subst hce
    go_enter Try.func19, Try.ntmps19
    go_wp2_with (first | (have X1 := own1; at_builtin; refine wpList_append_rows rfl _ _ rfl w.heap.size _ _ _ (vs.take i) rfl own1 _ _ _ (vs.drop (i + 1)) rfl (by have := HV.out; simp only [List.length_drop]; omega) (H.out.2.1.drop (i + 1)).one (.inr ⟨_, _, rfl⟩) (C2.out _ b1 _ (.inr (List.eq_nil_of_length_eq_zero (by rw [List.length_drop, HV.out]; omega)))) (fun e => by cases e) (by omega) b1.size ?_; intro a2 c2 w2 own2 b2; have bb := b1.trans b2) | (at_builtin; refine wpList_append_rows rfl _ _ rfl w.heap.size none 0 0 [] rfl (World.ownsRow_nil _ _ _ _) _ _ _ (vs.take i) rfl (by rw [List.length_take, HV.out]; omega) (H.out.2.1.take i).one (.inr ⟨_, _, rfl⟩) (C1.out _ (Below.refl _ _)) (fun e => by cases e) (by omega) (Nat.le_refl _) ?_; intro a1 c1 w1 own1 b1; rw [Nat.zero_add, List.nil_append] at own1))
    go_ret
    refine ⟨_, _, _, rfl, rdp_own own2 (((H.out.2.1.take i).later bb).append ((H.out.2.1.drop (i + 1)).later bb)) ?_ (by omega), bb⟩
    have := H.out.1
    simp
    omega
  · go_enter Try.func19, Try.ntmps19
    go_wp2_with (first | (have X1 := own1; at_builtin; refine wpList_append_rows rfl _ _ rfl w.heap.size _ _ _ (vs.take i) rfl own1 _ _ _ (vs.drop (i + 1)) rfl (by have := HV.out; simp only [List.length_drop]; omega) (H.out.2.1.drop (i + 1)).one (.inr ⟨_, _, rfl⟩) (C2.out _ b1 _ (.inl rfl)) (fun e => by cases e) (by omega) b1.size ?_; intro a2 c2 w2 own2 b2; have bb := b1.trans b2) | (at_builtin; refine wpList_append_rows rfl _ _ rfl w.heap.size none 0 0 [] rfl (World.ownsRow_nil _ _ _ _) _ _ _ (vs.take i) rfl (by rw [List.length_take, HV.out]; omega) (H.out.2.1.take i).one (.inr ⟨_, _, rfl⟩) (C1.out _ (Below.refl _ _)) (fun e => by cases e) (by omega) (Nat.le_refl _) ?_; intro a1 c1 w1 own1 b1; rw [Nat.zero_add, List.nil_append] at own1))
    go_ret
    refine ⟨_, _, _, rfl, rdp_own own2 (((H.out.2.1.take i).later bb).append ((H.out.2.1.drop (i + 1)).later bb)) ?_ (by omega), bb⟩
    have := H.out.1
    simp
    omega
end Go.Proofs.Ytcangaoamhaagaa
