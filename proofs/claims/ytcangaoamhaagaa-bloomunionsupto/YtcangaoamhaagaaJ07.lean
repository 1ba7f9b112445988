import Derived.Test.YtcangaoamhaagaaJ06
import Derived.Test.YtcangaoamhaagaaRows
import Derived.Test.YtcangaoamhaagaaJ00
import Derived.ProofKit
import Derived.OpenShut
import Derived.Deep.DeepHandedRow
import Derived.Lib.LaidTab
import Derived.Deep.Slices
namespace Go.Proofs.Ytcangaoamhaagaa
open Go.RowKit
set_option linter.unusedVariables false

theorem bld_bys (b : Int) (ks : List (List Nat)) : Bys (bldL b ks) ∧ (bldL b ks).length ≤ 3000000 := by
  rcases build_cases b ks with h | ⟨h, bn, rfl, h1, h2, h3⟩
  · have : bldL b ks = [] := by unfold bldL; rcases h with h | h <;> rw [h] <;> rfl
    rw [this]
    exact ⟨(fun x hx => by cases hx), by simp⟩
  · rw [h3]
    exact ⟨build_bys h1 h2, (build_len h1 h2).1⟩
theorem bld_append {b : Int} {ks qs : List (List Nat)} (h : bldE b (ks ++ qs).length = 0) : bldE b ks.length = 0 ∧ bldE b qs.length = 0 := by
  unfold bldE at h ⊢
  split at h
  · cases h
  · split at h
    · cases h
    · rename_i h1 h2
      simp at h2
      rw [if_neg h1, if_neg h1, if_neg (by omega), if_neg (by omega)]
      exact ⟨rfl, rfl⟩

set_option maxRecDepth 100000 in
set_option maxHeartbeats 4000000 in
theorem unions_walk {v1 v2 : Value} {ks qs : List (List Nat)} {w : World} (b : Int) (h1 : RdP w v1 ks) (h2 : RdP w v2 qs) (n1 : ∀ n c, v1 = .slice none n c → c = 0) (n2 : ∀ n c, v2 = .slice none n c → c = 0) (l1 : ks.length ≤ 1048576) (l2 : qs.length ≤ 1048576) :
    Calls Try.prog 5 #[.int .i64 b, v1, v2] w fun e w' => e = .returned (.bool true) ∧ Below w.heap.size w w' := by
  have H1 : Hid (RdP w v1 ks) := h1
  have H2 : Hid (RdP w v2 qs) := h2
  obtain ⟨a1, c1, rfl⟩ := own_rdp_len h1
  obtain ⟨a2, c2, rfl⟩ := own_rdp_len h2
  have HS : Hid (∀ wx : World, Calls Try.prog 12 #[] wx fun e w' => e = .returned (.bool true) ∧ Below wx.heap.size wx w') := started_any
  have HN : Hid (∀ (z : Int) (wx : World), Calls Try.prog 14 #[.int .i64 z] wx fun e w' => e = .returned (.int .i64 z) ∧ w' = wx) := num_any
  have HB1 : Hid (∀ wx : World, Below w.heap.size w wx → Calls Try.prog 13 #[.int .i64 b, .slice a1 ks.length c1] wx fun e w' => ∃ a m c, e = .returned (.tuple #[.slice a m c, .int .i64 ((bldE b ks.length : Nat) : Int)]) ∧ Own w' wx.heap.size (.slice a m c) m (bldL b ks) ∧ Below wx.heap.size wx w') := fun wx hx => build_any b (H1.out.later hx)
  have HB2 : Hid (∀ wx : World, Below w.heap.size w wx → Calls Try.prog 13 #[.int .i64 b, .slice a2 qs.length c2] wx fun e w' => ∃ a m c, e = .returned (.tuple #[.slice a m c, .int .i64 ((bldE b qs.length : Nat) : Int)]) ∧ Own w' wx.heap.size (.slice a m c) m (bldL b qs) ∧ Below wx.heap.size wx w') := fun wx hx => build_any b (H2.out.later hx)
  have HB3 : Hid (∀ (wx : World) (v : Value), RdP wx v (ks ++ qs) → Calls Try.prog 13 #[.int .i64 b, v] wx fun e w' => ∃ a m c, e = .returned (.tuple #[.slice a m c, .int .i64 ((bldE b (ks ++ qs).length : Nat) : Int)]) ∧ Own w' wx.heap.size (.slice a m c) m (bldL b (ks ++ qs)) ∧ Below wx.heap.size wx w') := fun wx v hv => build_any b hv
  obtain ⟨E1, hE1⟩ : ∃ E, E = bldE b ks.length := ⟨_, rfl⟩
  obtain ⟨E2, hE2⟩ : ∃ E, E = bldE b qs.length := ⟨_, rfl⟩
  obtain ⟨E3, hE3⟩ : ∃ E, E = bldE b (ks ++ qs).length := ⟨_, rfl⟩
  rw [← hE1] at HB1
  rw [← hE2] at HB2
  rw [← hE3] at HB3
  have HE : Hid (E1 = bldE b ks.length ∧ E2 = bldE b qs.length ∧ E3 = bldE b (ks ++ qs).length) := ⟨hE1, hE2, hE3⟩
  have HY1 := bld_bys b ks
  have HY2 := bld_bys b qs
  have HY3 := bld_bys b (ks ++ qs)
  have HY : Hid (Bys (bldL b ks) ∧ Bys (bldL b qs) ∧ Bys (bldL b (ks ++ qs))) := ⟨HY1.1, HY2.1, HY3.1⟩
  have q1 := HY1.2
  have q2 := HY2.2
  have q3 := HY3.2
  clear hE1 hE2 hE3 HY1 HY2 HY3
  have HROW1 : Hid (∀ wx : World, Below w.heap.size w wx → ∃ vs, ks.length = vs.length ∧ Row wx vs ks ∧ (vs = [] ∨ ∃ b off, a1 = some ⟨b, off, none⟩) ∧ ∀ x, a1 = some x → ∀ j u, vs[j]? = some u → wx.cell? (x.add j) = some u) := fun wx hx => by
    obtain ⟨vs, e1, e2, e3, e4⟩ := (H1.out.later hx).row
    exact ⟨vs, e2.1.symm, e2, e3.imp (fun h => List.eq_nil_of_length_eq_zero (by rw [e2.1, h]; rfl)) id, e4⟩
  have HROW2 : Hid (∀ wx : World, Below w.heap.size w wx → ∃ vs, qs.length = vs.length ∧ Row wx vs qs ∧ (vs = [] ∨ ∃ b off, a2 = some ⟨b, off, none⟩) ∧ ∀ x, a2 = some x → ∀ j u, vs[j]? = some u → wx.cell? (x.add j) = some u) := fun wx hx => by
    obtain ⟨vs, e1, e2, e3, e4⟩ := (H2.out.later hx).row
    exact ⟨vs, e2.1.symm, e2, e3.imp (fun h => List.eq_nil_of_length_eq_zero (by rw [e2.1, h]; rfl)) id, e4⟩
  have HC1 : Hid (a1 = none → c1 = 0) := fun h => n1 ks.length c1 (by rw [h])
  have HC2 : Hid (a2 = none → c2 = 0) := fun h => n2 qs.length c2 (by rw [h])
  obtain ⟨nk, hnk⟩ : ∃ nk, nk = ks.length := ⟨_, rfl⟩
  obtain ⟨nq, hnq⟩ : ∃ nq, nq = qs.length := ⟨_, rfl⟩
  have HNK : Hid (nk = ks.length ∧ nq = qs.length) := ⟨hnk, hnq⟩
  rw [← hnk] at HB1 HROW1 l1 ⊢
  rw [← hnq] at HB2 HROW2 l2 ⊢
  clear n1 n2 h1 h2 hnk hnq H1 H2
  by_cases hall : E1 = 0 ∧ E2 = 0 ∧ E3 = 0
  · obtain ⟨rfl, rfl, rfl⟩ := hall
    have hz := HE.out
    rcases build_cases b ks with hx | ⟨_, bn, rfl, hb20, hk20, hF⟩
    · omega
    rcases build_cases (bn : Int) qs with hx | ⟨_, bn2, hbe, _, hq20, hG⟩
    · omega
    rcases build_cases (bn : Int) (ks ++ qs) with hx | ⟨_, bn3, hbe3, _, ha20, hLL⟩
    · omega
    have ee : bn2 = bn ∧ bn3 = bn := by omega
    obtain ⟨rfl, rfl⟩ := ee
    rw [hF] at HB1 HY q1
    rw [hG] at HB2 HY q2
    rw [hLL] at HB3 HY q3
    have P1 : Hid (∀ h : (buildL bn3 ks).length = (buildL bn3 qs).length, (buildL bn3 ks).length = (buildL bn3 (ks ++ qs)).length → unionL (buildL bn3 ks) (buildL bn3 qs) = buildL bn3 (ks ++ qs)) := fun h h2 => union_all hb20 hk20 hq20 ha20 h h2
    have P2 : Hid ((uniE (buildL bn3 ks) (buildL bn3 qs) = 0) ↔ (buildL bn3 ks).length = (buildL bn3 qs).length) := uni_len hb20 hk20 hq20
    have P3 : Hid (uniL (buildL bn3 ks) (buildL bn3 qs) = uniL (buildL bn3 qs) (buildL bn3 ks)) := union_comm hb20 hk20 hq20
    have P4 := uni_or hb20 hk20 hq20
    have HXB0 : Bys (uniL (buildL bn3 ks) (buildL bn3 qs)) ∧ (uniL (buildL bn3 ks) (buildL bn3 qs)).length ≤ 7000000 := by
      unfold uniL
      split
      · refine ⟨unionL_bys HY.out.1 HY.out.2.1, ?_⟩
        unfold unionL
        simp only [List.length_append, List.length_take, List.length_zipWith, List.length_drop]
        omega
      · exact ⟨(fun x hx => by cases hx), by simp⟩
    have HAL : Hid (∀ (wx : World) (va vb : Value) (xs ys : List Nat), Rd wx va xs → Rd wx vb ys → Calls Try.prog 18 #[va, vb] wx fun e w' => e = .returned (.bool (decide (xs = ys))) ∧ w' = wx) := fun wx va vb xs ys ha hb => alike_any ha hb
    have HU1 : Hid (∀ (wx : World) (va vb : Value), Rd wx va (buildL bn3 ks) → Rd wx vb (buildL bn3 qs) → Calls Try.prog 15 #[va, vb] wx fun e w' => ∃ a m c, e = .returned (.tuple #[.slice a m c, .int .i64 ((uniE (buildL bn3 ks) (buildL bn3 qs) : Nat) : Int)]) ∧ Own w' wx.heap.size (.slice a m c) m (uniL (buildL bn3 ks) (buildL bn3 qs)) ∧ Below wx.heap.size wx w') := fun wx va vb ha hb => union_any ha hb
    have HU2 : Hid (∀ (wx : World) (va vb : Value), Rd wx va (buildL bn3 qs) → Rd wx vb (buildL bn3 ks) → Calls Try.prog 15 #[va, vb] wx fun e w' => ∃ a m c, e = .returned (.tuple #[.slice a m c, .int .i64 ((uniE (buildL bn3 ks) (buildL bn3 qs) : Nat) : Int)]) ∧ Own w' wx.heap.size (.slice a m c) m (uniL (buildL bn3 ks) (buildL bn3 qs)) ∧ Below wx.heap.size wx w') := fun wx va vb ha hb => by
      rw [P3.out, uni_comm]
      exact union_any ha hb
    have hXu : Hid (uniE (buildL bn3 ks) (buildL bn3 qs) = 0 → uniL (buildL bn3 ks) (buildL bn3 qs) = unionL (buildL bn3 ks) (buildL bn3 qs)) := fun h => by unfold uniL; rw [if_pos h]
    have HXB : Hid (Bys (uniL (buildL bn3 ks) (buildL bn3 qs))) := HXB0.1
    have hX7 := HXB0.2
    clear HXB0 hz hbe hbe3 hF hG hLL hb20 hk20 hq20 ha20 P3
    generalize buildL bn3 ks = F at *
    generalize buildL bn3 qs = G at *
    generalize buildL bn3 (ks ++ qs) = L at *
    generalize uniL F G = X at *
    rcases P4 with hu | hu
    · rw [hu] at HU1 HU2
      have hFG : Hid (F.length = G.length) := P2.out.1 hu
      by_cases hFL : F.length = L.length
      · have hXL0 : decide (X = L) = true := by rw [hXu.out hu, P1.out hFG.out hFL]; simp
        have hXL : Hid (decide (X = L) = true) := hXL0
        have HFL : Hid (F.length = L.length) := hFL
        clear hXL0 hFL
        go_enter Try.func5, Try.ntmps5
        go_wp2_with (first | (have Y5 := b7; go_at_call 15; refine Calls.mono (HU2.out _ _ _ rX.out.2.1 rX.out.1) ?_; rintro e8 w8 ⟨a11, m11, c11, rfl, own11, b8'⟩; have b8 : Below w.heap.size w w8 := b7.trans (b8'.mono b7.size); have rZ : Hid (Rd w8 (.slice a10 m10 c10) X ∧ Rd w8 (.slice a11 m11 c11) X ∧ Rd w8 (.slice a9 _ c9) L) := ⟨rX.out.2.2.2.later b8', own11.rd HXB.out (by rw [own11.1]; omega), rX.out.2.2.1.later b8'⟩) | (go_at_call 15; refine Calls.mono (HU1.out _ _ _ rR.out.1 rR.out.2.1) ?_; rintro e7 w7 ⟨a10, m10, c10, rfl, own10, b7'⟩; have b7 : Below w.heap.size w w7 := b6.trans (b7'.mono b6.size); have rX : Hid (Rd w7 (.slice a7 _ c7) F ∧ Rd w7 (.slice a8 _ c8) G ∧ Rd w7 (.slice a9 _ c9) L ∧ Rd w7 (.slice a10 m10 c10) X) := ⟨rR.out.1.later b7', rR.out.2.1.later b7', rR.out.2.2.later b7', own10.rd HXB.out (by rw [own10.1]; omega)⟩) | (go_at_call_of 18 (Value.slice a11 m11 c11); refine Calls.mono (HAL.out _ _ _ X X rZ.out.1 rZ.out.2.1) ?_; rintro ea wa ⟨rfl, rfl⟩; have dX : decide (X = X) = true := (by simp); rw [dX]) | (go_at_call_of 18 (Value.slice a9 m9 c9); refine Calls.mono (HAL.out _ _ _ X L rZ.out.1 rZ.out.2.2) ?_; rintro ea wa ⟨rfl, rfl⟩; rw [hXL.out]) | (go_at_call 12; refine Calls.mono (HS.out _) ?_; rintro e1 w1 ⟨rfl, b1⟩; obtain ⟨vs, e2, e3, e4, e5⟩ := HROW1.out _ b1; have R1 : Hid (nk = vs.length ∧ Row w1 vs ks ∧ (vs = [] ∨ ∃ b off, a1 = some ⟨b, off, none⟩) ∧ ∀ x, a1 = some x → ∀ j u, vs[j]? = some u → w1.cell? (x.add j) = some u) := ⟨e2, e3, e4, e5⟩; clear e2 e3 e4 e5; obtain ⟨us, e2, e3, e4, e5⟩ := HROW2.out _ b1; have R2 : Hid (nq = us.length ∧ Row w1 us qs ∧ (us = [] ∨ ∃ b off, a2 = some ⟨b, off, none⟩) ∧ ∀ x, a2 = some x → ∀ j u, us[j]? = some u → w1.cell? (x.add j) = some u) := ⟨e2, e3, e4, e5⟩; clear e2 e3 e4 e5) | (have X2 := own2; at_builtin; refine wpList_append_rows rfl _ _ rfl w1.heap.size _ _ _ vs rfl own2 a2 nq c2 us rfl R2.out.1 R2.out.2.1.one R2.out.2.2.1 (fun x hx j u hj => (b2.cell (World.block_lt_of_cell? _ _ (R2.out.2.2.2 x hx j u hj))).trans (R2.out.2.2.2 x hx j u hj)) HC2.out (by omega) b2.size ?_; intro a6 c6 w3 own3 b3'; have b3 : Below w.heap.size w w3 := b1.trans ((b2.trans b3').mono b1.size); have RL : Hid (RdP w3 (.slice a6 (nk + nq) c6) (ks ++ qs)) := rdp_own own3 ((R1.out.2.1.later (b2.trans b3')).append (R2.out.2.1.later (b2.trans b3'))) (by have := HNK.out; simp; omega) (by omega); clear own3 X2 own2) | (at_builtin; refine wpList_append_rows rfl _ _ rfl w1.heap.size none 0 0 [] rfl (World.ownsRow_nil _ _ _ _) a1 nk c1 vs rfl R1.out.1 R1.out.2.1.one R1.out.2.2.1 R1.out.2.2.2 HC1.out (by omega) (Nat.le_refl _) ?_; intro a5 c5 w2 own2 b2; rw [Nat.zero_add, List.nil_append] at own2) | (have Y4 := b5; go_at_call 13; refine Calls.mono (HB3.out _ _ (RL.out.later ((b4'.trans (b5'.mono b4'.size))))) ?_; rintro e6 w6 ⟨a9, m9, c9, rfl, own9, b6'⟩; have b6 : Below w.heap.size w w6 := b5.trans (b6'.mono b5.size); have rR : Hid (Rd w6 (.slice a7 m7 c7) F ∧ Rd w6 (.slice a8 m8 c8) G ∧ Rd w6 (.slice a9 m9 c9) L) := ⟨((own7.rd HY.out.1 (by rw [own7.1]; omega)).later b5').later b6', (own8.rd HY.out.2.1 (by rw [own8.1]; omega)).later b6', own9.rd HY.out.2.2 (by rw [own9.1]; omega)⟩; have em7 : m7 = F.length := own7.1; have em8 : m8 = G.length := own8.1; have em9 : m9 = L.length := own9.1; have e78 : m8 = m7 := (by rw [em8, em7]; exact hFG.out.symm); subst e78; have e79 : m9 = m8 := (by rw [em9, em7]; exact HFL.out.symm); subst e79; clear em7 em8 em9) | (have Y4 := b4; go_at_call 13; refine Calls.mono (HB2.out _ b4) ?_; rintro e5 w5 ⟨a8, m8, c8, rfl, own8, b5'⟩; have b5 : Below w.heap.size w w5 := b4.trans (b5'.mono b4.size)) | (go_at_call 13; refine Calls.mono (HB1.out _ b3) ?_; rintro e4 w4 ⟨a7, m7, c7, rfl, own7, b4'⟩; have b4 : Below w.heap.size w w4 := b3.trans (b4'.mono b3.size)) | (go_at_call 14; refine Calls.mono (HN.out _ _) ?_; rintro en wn ⟨rfl, rfl⟩))
        go_ret
        exact ⟨rfl, b8⟩
      · have hXL : Hid (decide (X = L) = decide (X = L)) := rfl
        have HFL : Hid (¬ F.length = L.length) := hFL
        clear hFL
        go_enter Try.func5, Try.ntmps5
        go_wp2_with (first | (have Y5 := b7; go_at_call 15; refine Calls.mono (HU2.out _ _ _ rX.out.2.1 rX.out.1) ?_; rintro e8 w8 ⟨a11, m11, c11, rfl, own11, b8'⟩; have b8 : Below w.heap.size w w8 := b7.trans (b8'.mono b7.size); have rZ : Hid (Rd w8 (.slice a10 m10 c10) X ∧ Rd w8 (.slice a11 m11 c11) X ∧ Rd w8 (.slice a9 _ c9) L) := ⟨rX.out.2.2.2.later b8', own11.rd HXB.out (by rw [own11.1]; omega), rX.out.2.2.1.later b8'⟩) | (go_at_call 15; refine Calls.mono (HU1.out _ _ _ rR.out.1 rR.out.2.1) ?_; rintro e7 w7 ⟨a10, m10, c10, rfl, own10, b7'⟩; have b7 : Below w.heap.size w w7 := b6.trans (b7'.mono b6.size); have rX : Hid (Rd w7 (.slice a7 _ c7) F ∧ Rd w7 (.slice a8 _ c8) G ∧ Rd w7 (.slice a9 _ c9) L ∧ Rd w7 (.slice a10 m10 c10) X) := ⟨rR.out.1.later b7', rR.out.2.1.later b7', rR.out.2.2.later b7', own10.rd HXB.out (by rw [own10.1]; omega)⟩) | (go_at_call_of 18 (Value.slice a11 m11 c11); refine Calls.mono (HAL.out _ _ _ X X rZ.out.1 rZ.out.2.1) ?_; rintro ea wa ⟨rfl, rfl⟩; have dX : decide (X = X) = true := (by simp); rw [dX]) | (go_at_call_of 18 (Value.slice a9 m9 c9); refine Calls.mono (HAL.out _ _ _ X L rZ.out.1 rZ.out.2.2) ?_; rintro ea wa ⟨rfl, rfl⟩; rw [hXL.out]) | (go_at_call 12; refine Calls.mono (HS.out _) ?_; rintro e1 w1 ⟨rfl, b1⟩; obtain ⟨vs, e2, e3, e4, e5⟩ := HROW1.out _ b1; have R1 : Hid (nk = vs.length ∧ Row w1 vs ks ∧ (vs = [] ∨ ∃ b off, a1 = some ⟨b, off, none⟩) ∧ ∀ x, a1 = some x → ∀ j u, vs[j]? = some u → w1.cell? (x.add j) = some u) := ⟨e2, e3, e4, e5⟩; clear e2 e3 e4 e5; obtain ⟨us, e2, e3, e4, e5⟩ := HROW2.out _ b1; have R2 : Hid (nq = us.length ∧ Row w1 us qs ∧ (us = [] ∨ ∃ b off, a2 = some ⟨b, off, none⟩) ∧ ∀ x, a2 = some x → ∀ j u, us[j]? = some u → w1.cell? (x.add j) = some u) := ⟨e2, e3, e4, e5⟩; clear e2 e3 e4 e5) | (have X2 := own2; at_builtin; refine wpList_append_rows rfl _ _ rfl w1.heap.size _ _ _ vs rfl own2 a2 nq c2 us rfl R2.out.1 R2.out.2.1.one R2.out.2.2.1 (fun x hx j u hj => (b2.cell (World.block_lt_of_cell? _ _ (R2.out.2.2.2 x hx j u hj))).trans (R2.out.2.2.2 x hx j u hj)) HC2.out (by omega) b2.size ?_; intro a6 c6 w3 own3 b3'; have b3 : Below w.heap.size w w3 := b1.trans ((b2.trans b3').mono b1.size); have RL : Hid (RdP w3 (.slice a6 (nk + nq) c6) (ks ++ qs)) := rdp_own own3 ((R1.out.2.1.later (b2.trans b3')).append (R2.out.2.1.later (b2.trans b3'))) (by have := HNK.out; simp; omega) (by omega); clear own3 X2 own2) | (at_builtin; refine wpList_append_rows rfl _ _ rfl w1.heap.size none 0 0 [] rfl (World.ownsRow_nil _ _ _ _) a1 nk c1 vs rfl R1.out.1 R1.out.2.1.one R1.out.2.2.1 R1.out.2.2.2 HC1.out (by omega) (Nat.le_refl _) ?_; intro a5 c5 w2 own2 b2; rw [Nat.zero_add, List.nil_append] at own2) | (have Y4 := b5; go_at_call 13; refine Calls.mono (HB3.out _ _ (RL.out.later ((b4'.trans (b5'.mono b4'.size))))) ?_; rintro e6 w6 ⟨a9, m9, c9, rfl, own9, b6'⟩; have b6 : Below w.heap.size w w6 := b5.trans (b6'.mono b5.size); have rR : Hid (Rd w6 (.slice a7 m7 c7) F ∧ Rd w6 (.slice a8 m8 c8) G ∧ Rd w6 (.slice a9 m9 c9) L) := ⟨((own7.rd HY.out.1 (by rw [own7.1]; omega)).later b5').later b6', (own8.rd HY.out.2.1 (by rw [own8.1]; omega)).later b6', own9.rd HY.out.2.2 (by rw [own9.1]; omega)⟩; have em7 : m7 = F.length := own7.1; have em8 : m8 = G.length := own8.1; have em9 : m9 = L.length := own9.1; have e78 : m8 = m7 := (by rw [em8, em7]; exact hFG.out.symm); subst e78; have n1 : ((m8 : Int) != (m9 : Int)) = true := (by have := HFL.out; rw [bne_iff_ne]; omega); have n2 : ¬ ((m8 : Int) = (m9 : Int)) := (by have := HFL.out; omega); clear em7 em8 em9) | (have Y4 := b4; go_at_call 13; refine Calls.mono (HB2.out _ b4) ?_; rintro e5 w5 ⟨a8, m8, c8, rfl, own8, b5'⟩; have b5 : Below w.heap.size w w5 := b4.trans (b5'.mono b4.size)) | (go_at_call 13; refine Calls.mono (HB1.out _ b3) ?_; rintro e4 w4 ⟨a7, m7, c7, rfl, own7, b4'⟩; have b4 : Below w.heap.size w w4 := b3.trans (b4'.mono b3.size)) | (go_at_call 14; refine Calls.mono (HN.out _ _) ?_; rintro en wn ⟨rfl, rfl⟩))
        go_ret
        exact ⟨rfl, b8⟩
    · rw [hu] at HU1 HU2
      have hFG : Hid (¬ F.length = G.length) := fun h => by have := P2.out.2 h; omega
      have hXL : Hid (decide (X = L) = decide (X = L)) := rfl
      go_enter Try.func5, Try.ntmps5
      go_wp2_with (first | (have Y5 := b7; go_at_call 15; refine Calls.mono (HU2.out _ _ _ rX.out.2.1 rX.out.1) ?_; rintro e8 w8 ⟨a11, m11, c11, rfl, own11, b8'⟩; have b8 : Below w.heap.size w w8 := b7.trans (b8'.mono b7.size); have rZ : Hid (Rd w8 (.slice a10 m10 c10) X ∧ Rd w8 (.slice a11 m11 c11) X ∧ Rd w8 (.slice a9 _ c9) L) := ⟨rX.out.2.2.2.later b8', own11.rd HXB.out (by rw [own11.1]; omega), rX.out.2.2.1.later b8'⟩) | (go_at_call 15; refine Calls.mono (HU1.out _ _ _ rR.out.1 rR.out.2.1) ?_; rintro e7 w7 ⟨a10, m10, c10, rfl, own10, b7'⟩; have b7 : Below w.heap.size w w7 := b6.trans (b7'.mono b6.size); have rX : Hid (Rd w7 (.slice a7 _ c7) F ∧ Rd w7 (.slice a8 _ c8) G ∧ Rd w7 (.slice a9 _ c9) L ∧ Rd w7 (.slice a10 m10 c10) X) := ⟨rR.out.1.later b7', rR.out.2.1.later b7', rR.out.2.2.later b7', own10.rd HXB.out (by rw [own10.1]; omega)⟩) | (go_at_call_of 18 (Value.slice a11 m11 c11); refine Calls.mono (HAL.out _ _ _ X X rZ.out.1 rZ.out.2.1) ?_; rintro ea wa ⟨rfl, rfl⟩; have dX : decide (X = X) = true := (by simp); rw [dX]) | (go_at_call_of 18 (Value.slice a9 m9 c9); refine Calls.mono (HAL.out _ _ _ X L rZ.out.1 rZ.out.2.2) ?_; rintro ea wa ⟨rfl, rfl⟩; rw [hXL.out]) | (go_at_call 12; refine Calls.mono (HS.out _) ?_; rintro e1 w1 ⟨rfl, b1⟩; obtain ⟨vs, e2, e3, e4, e5⟩ := HROW1.out _ b1; have R1 : Hid (nk = vs.length ∧ Row w1 vs ks ∧ (vs = [] ∨ ∃ b off, a1 = some ⟨b, off, none⟩) ∧ ∀ x, a1 = some x → ∀ j u, vs[j]? = some u → w1.cell? (x.add j) = some u) := ⟨e2, e3, e4, e5⟩; clear e2 e3 e4 e5; obtain ⟨us, e2, e3, e4, e5⟩ := HROW2.out _ b1; have R2 : Hid (nq = us.length ∧ Row w1 us qs ∧ (us = [] ∨ ∃ b off, a2 = some ⟨b, off, none⟩) ∧ ∀ x, a2 = some x → ∀ j u, us[j]? = some u → w1.cell? (x.add j) = some u) := ⟨e2, e3, e4, e5⟩; clear e2 e3 e4 e5) | (have X2 := own2; at_builtin; refine wpList_append_rows rfl _ _ rfl w1.heap.size _ _ _ vs rfl own2 a2 nq c2 us rfl R2.out.1 R2.out.2.1.one R2.out.2.2.1 (fun x hx j u hj => (b2.cell (World.block_lt_of_cell? _ _ (R2.out.2.2.2 x hx j u hj))).trans (R2.out.2.2.2 x hx j u hj)) HC2.out (by omega) b2.size ?_; intro a6 c6 w3 own3 b3'; have b3 : Below w.heap.size w w3 := b1.trans ((b2.trans b3').mono b1.size); have RL : Hid (RdP w3 (.slice a6 (nk + nq) c6) (ks ++ qs)) := rdp_own own3 ((R1.out.2.1.later (b2.trans b3')).append (R2.out.2.1.later (b2.trans b3'))) (by have := HNK.out; simp; omega) (by omega); clear own3 X2 own2) | (at_builtin; refine wpList_append_rows rfl _ _ rfl w1.heap.size none 0 0 [] rfl (World.ownsRow_nil _ _ _ _) a1 nk c1 vs rfl R1.out.1 R1.out.2.1.one R1.out.2.2.1 R1.out.2.2.2 HC1.out (by omega) (Nat.le_refl _) ?_; intro a5 c5 w2 own2 b2; rw [Nat.zero_add, List.nil_append] at own2) | (have Y4 := b5; go_at_call 13; refine Calls.mono (HB3.out _ _ (RL.out.later ((b4'.trans (b5'.mono b4'.size))))) ?_; rintro e6 w6 ⟨a9, m9, c9, rfl, own9, b6'⟩; have b6 : Below w.heap.size w w6 := b5.trans (b6'.mono b5.size); have rR : Hid (Rd w6 (.slice a7 m7 c7) F ∧ Rd w6 (.slice a8 m8 c8) G ∧ Rd w6 (.slice a9 m9 c9) L) := ⟨((own7.rd HY.out.1 (by rw [own7.1]; omega)).later b5').later b6', (own8.rd HY.out.2.1 (by rw [own8.1]; omega)).later b6', own9.rd HY.out.2.2 (by rw [own9.1]; omega)⟩; have em7 : m7 = F.length := own7.1; have em8 : m8 = G.length := own8.1; have em9 : m9 = L.length := own9.1; have n1 : ((m7 : Int) == (m8 : Int)) = false := (by have := hFG.out; rw [beq_eq_false_iff_ne]; omega); have n2 : ¬ ((m7 : Int) = (m8 : Int)) := (by have := hFG.out; omega); clear em7 em8 em9) | (have Y4 := b4; go_at_call 13; refine Calls.mono (HB2.out _ b4) ?_; rintro e5 w5 ⟨a8, m8, c8, rfl, own8, b5'⟩; have b5 : Below w.heap.size w w5 := b4.trans (b5'.mono b4.size)) | (go_at_call 13; refine Calls.mono (HB1.out _ b3) ?_; rintro e4 w4 ⟨a7, m7, c7, rfl, own7, b4'⟩; have b4 : Below w.heap.size w w4 := b3.trans (b4'.mono b3.size)) | (go_at_call 14; refine Calls.mono (HN.out _ _) ?_; rintro en wn ⟨rfl, rfl⟩))
      go_ret
      exact ⟨rfl, b8⟩
  · have HA : Hid (¬ (E1 = 0 ∧ E2 = 0 ∧ E3 = 0)) := hall
    clear hall
    go_enter Try.func5, Try.ntmps5
    go_wp2_with (first | (go_at_call 12; refine Calls.mono (HS.out _) ?_; rintro e1 w1 ⟨rfl, b1⟩; obtain ⟨vs, e2, e3, e4, e5⟩ := HROW1.out _ b1; have R1 : Hid (nk = vs.length ∧ Row w1 vs ks ∧ (vs = [] ∨ ∃ b off, a1 = some ⟨b, off, none⟩) ∧ ∀ x, a1 = some x → ∀ j u, vs[j]? = some u → w1.cell? (x.add j) = some u) := ⟨e2, e3, e4, e5⟩; clear e2 e3 e4 e5; obtain ⟨us, e2, e3, e4, e5⟩ := HROW2.out _ b1; have R2 : Hid (nq = us.length ∧ Row w1 us qs ∧ (us = [] ∨ ∃ b off, a2 = some ⟨b, off, none⟩) ∧ ∀ x, a2 = some x → ∀ j u, us[j]? = some u → w1.cell? (x.add j) = some u) := ⟨e2, e3, e4, e5⟩; clear e2 e3 e4 e5) | (have X2 := own2; at_builtin; refine wpList_append_rows rfl _ _ rfl w1.heap.size _ _ _ vs rfl own2 a2 nq c2 us rfl R2.out.1 R2.out.2.1.one R2.out.2.2.1 (fun x hx j u hj => (b2.cell (World.block_lt_of_cell? _ _ (R2.out.2.2.2 x hx j u hj))).trans (R2.out.2.2.2 x hx j u hj)) HC2.out (by omega) b2.size ?_; intro a6 c6 w3 own3 b3'; have b3 : Below w.heap.size w w3 := b1.trans ((b2.trans b3').mono b1.size); have RL : Hid (RdP w3 (.slice a6 (nk + nq) c6) (ks ++ qs)) := rdp_own own3 ((R1.out.2.1.later (b2.trans b3')).append (R2.out.2.1.later (b2.trans b3'))) (by have := HNK.out; simp; omega) (by omega); clear own3 X2 own2) | (at_builtin; refine wpList_append_rows rfl _ _ rfl w1.heap.size none 0 0 [] rfl (World.ownsRow_nil _ _ _ _) a1 nk c1 vs rfl R1.out.1 R1.out.2.1.one R1.out.2.2.1 R1.out.2.2.2 HC1.out (by omega) (Nat.le_refl _) ?_; intro a5 c5 w2 own2 b2; rw [Nat.zero_add, List.nil_append] at own2) | (have Y4 := b5; go_at_call 13; refine Calls.mono (HB3.out _ _ (RL.out.later ((b4'.trans (b5'.mono b4'.size))))) ?_; rintro e6 w6 ⟨a9, m9, c9, rfl, own9, b6'⟩; have b6 : Below w.heap.size w w6 := b5.trans (b6'.mono b5.size)) | (have Y4 := b4; go_at_call 13; refine Calls.mono (HB2.out _ b4) ?_; rintro e5 w5 ⟨a8, m8, c8, rfl, own8, b5'⟩; have b5 : Below w.heap.size w w5 := b4.trans (b5'.mono b4.size)) | (go_at_call 13; refine Calls.mono (HB1.out _ b3) ?_; rintro e4 w4 ⟨a7, m7, c7, rfl, own7, b4'⟩; have b4 : Below w.heap.size w w4 := b3.trans (b4'.mono b3.size)) | (go_at_call 14; refine Calls.mono (HN.out _ _) ?_; rintro en wn ⟨rfl, rfl⟩))
    all_goals first
      | (go_ret; exact ⟨rfl, b6⟩)
      | (exfalso; have hz : ((E3 : Int) != 0) = false := (by assumption); exact HA.out ⟨by omega, by omega, by simpa using hz⟩)
end Go.Proofs.Ytcangaoamhaagaa

namespace Go.Proofs.Ytcangaoamhaagaa
open Go.ChangeShapes Go.WideShapes Go.ChangeAt Go.RowKit
set_option linter.unusedVariables false

theorem own_knob : ownKnob Try.prog.godebug = none := by kernel_rfl
theorem laid_out : laidOutB Try.prog = true := by kernel_rfl
theorem und_int : Try.prog.underlying 3 = some (.int .i64) := by kernel_rfl
theorem und_u64 : Try.prog.underlying 85 = some (.int .u64) := by kernel_rfl
theorem und_bool : Try.prog.underlying 4 = some .bool := by kernel_rfl
theorem cells_byte : Try.prog.cellsOf 5 = 1 := by kernel_rfl
theorem cells_bytes : Try.prog.cellsOf 24 = 1 := by kernel_rfl

theorem bulk_pos {H : Type} (d : DataW H) : 1 ≤ Rows.uptoBulk d := by
  cases d with
  | lit l => cases l <;> simp [Rows.uptoBulk]
  | nil => simp [Rows.uptoBulk]
  | ptr d => simp [Rows.uptoBulk]
  | slice elems spare => simp [Rows.uptoBulk]
  | agg parts => simp [Rows.uptoBulk]
  | iface t d => simp [Rows.uptoBulk]
  | map entries => simp [Rows.uptoBulk]
  | held h => simp [Rows.uptoBulk]
theorem bulk_len {H : Type} (l : List (DataW H)) : l.length ≤ Rows.uptoBulkAll l := by
  induction l with
  | nil => simp [Rows.uptoBulkAll]
  | cons x r ih => have := bulk_pos x; simp only [Rows.uptoBulkAll, List.length_cons]; omega

/-- A slice of bytes that came in. -/
theorem open_bytes {H : Type} {enc : TypeId × Value → H} {W : World} {v : Value} {d : DataW H} {p : List MemPlace} {base : Nat} {held : Bool} (h : DataW.Trod enc Try.prog W base (fun _ => true) held 24 v d p) (hs : ∃ a n c, v = .slice a n c) :
    ∃ bs : List Nat, (bs.length ≤ 281474976710656 → Rd W v bs) ∧ bs.length + 1 ≤ Rows.uptoBulk d ∧ (bs = [] ∨ ∃ elems spare, d = .slice elems spare ∧ elems.length = bs.length) := by
  obtain ⟨a, n, c, rfl⟩ := hs
  obtain ⟨fuel, hf⟩ := h
  rcases open_ints und_bytes und_byte cells_byte hf with ⟨hcs, hx⟩ | ⟨x, l, c', zs, hcs, _, hl, hm, hz, hx, hcell, hwz⟩
  · simp [Value.cells] at hcs
    obtain ⟨rfl, rfl, rfl⟩ := hcs
    refine ⟨[], fun _ => Rd.nil W, ?_, .inl rfl⟩
    have := bulk_pos d
    simpa using this
  · simp [Value.cells] at hcs
    obtain ⟨rfl, rfl, rfl⟩ := hcs
    simp only [if_true] at hz
    simp only [Prod.mk.injEq] at hx
    obtain ⟨rfl, _⟩ := hx
    have hby : ∀ i, i < zs.length → 0 ≤ zs.getD i 0 ∧ zs.getD i 0 < 256 := by
      intro i hi
      have hmem : zs.getD i 0 ∈ zs := by simp [List.getD, List.getElem?_eq_getElem hi]
      have := bounds_u8 (hwz _ hmem)
      omega
    refine ⟨(zs.take n).map Int.toNat, fun hlen => ⟨?_, some x, c, ?_, ?_, hm, hlen, ?_, ?_⟩, ?_, .inr ⟨_, _, rfl, by simp [lits]⟩⟩
    · intro y hy
      simp only [List.mem_map] at hy
      obtain ⟨z, hz1, rfl⟩ := hy
      have := bounds_u8 (hwz z (List.mem_of_mem_take hz1))
      omega
    · simp; omega
    · simp; omega
    · by_cases hc0 : c = 0
      · exact .inl hc0
      · right
        obtain ⟨b, off, spot⟩ := x
        have hc := hcell 0 (by omega)
        have hspot : spot = none := by simpa [Addr.add] using World.cell?_spot hc
        subst hspot
        exact ⟨b, off, rfl⟩
    · by_cases hn0 : n = 0
      · left; simp [hn0]
      · right
        obtain ⟨b, off, spot⟩ := x
        have hc := hcell 0 (by omega)
        have hspot : spot = none := by simpa [Addr.add] using World.cell?_spot hc
        subst hspot
        refine ⟨b, off, rfl, fun i hi => ?_⟩
        have hin : i < n := by simp at hi; omega
        have hc := hcell i (by omega)
        have e : (⟨b, off, none⟩ : Addr).add i = ⟨b, off + i, none⟩ := by unfold Addr.add; split <;> simp_all
        rw [e] at hc
        rw [hc]
        have hb := hby i (by omega)
        have e2 : ((zs.take n).map Int.toNat).getD i 0 = (zs.getD i 0).toNat := by
          simp [List.getElem?_take_of_lt hin, List.getElem?_eq_getElem (show i < zs.length by omega)]
        rw [e2, Int.toNat_of_nonneg hb.1]
    · have h1 := bulk_len (H := H) (lits .u8 (zs.take n))
      simp only [Rows.uptoBulk]
      simp [lits] at h1 ⊢
      omega

/-- What the reach gives of a slice of bytes. -/
theorem reach_bytes {H : Type} {ts : List TypeId} {ds gs : List (DataW H)} (h : (DataW.weightsEach Try.prog ts (ds ++ gs)).all (fun x => decide (x ≤ reachBytes)) = true) (j : Nat) (ht : ts[j]? = some 24) {d : DataW H} (hd : ds[j]? = some d) {bs : List Nat} (hx : bs = [] ∨ ∃ elems spare, d = .slice elems spare ∧ elems.length = bs.length) : bs.length ≤ 140737488351232 := by
  rcases hx with rfl | ⟨elems, spare, rfl, hl⟩
  · simp
  · have hd2 : (ds ++ gs)[j]? = some (.slice elems spare) := by
      rw [List.getElem?_append_left (List.getElem?_eq_some_iff.1 hd).1]
      exact hd
    have := sized_slice h ht hd2 und_bytes
    rw [show Try.prog.bytesOf 5 = 1 by kernel_rfl] at this
    unfold reachBytes at this
    omega

end Go.Proofs.Ytcangaoamhaagaa

namespace Go.Proofs.Ytcangaoamhaagaa
open Go.ChangeShapes Go.WideShapes Go.ChangeAt Go.RowKit
set_option linter.unusedVariables false

/-- The weights of one argument. -/
theorem weight_atP {H : Type} : ∀ {ts : List TypeId} {ds : List (DataW H)} (h : (DataW.weightsEach Try.prog ts ds).all (fun x => decide (x ≤ reachBytes)) = true) (j : Nat) {t : TypeId} {d : DataW H} (ht : ts[j]? = some t) (hd : ds[j]? = some d), (d.weights Try.prog t).all (fun x => decide (x ≤ reachBytes)) = true
  | [], _, _, j, _, _, ht, _ => by simp at ht
  | _ :: _, [], _, j, _, _, _, hd => by simp at hd
  | t :: ts, d :: ds, h, 0, _, _, ht, hd => by
    simp only [List.getElem?_cons_zero, Option.some.injEq] at ht hd
    subst ht hd
    simp only [DataW.weightsEach, List.all_append, Bool.and_eq_true] at h
    exact h.1
  | t :: ts, d :: ds, h, j + 1, _, _, ht, hd => by
    simp only [DataW.weightsEach, List.all_append, Bool.and_eq_true] at h
    exact weight_atP h.2 j (by simpa using ht) (by simpa using hd)
theorem weight_all {H : Type} {e : TypeId} : ∀ {ds : List (DataW H)} (h : (DataW.weightsAll Try.prog e ds).all (fun x => decide (x ≤ reachBytes)) = true) {d : DataW H} (hd : d ∈ ds), (d.weights Try.prog e).all (fun x => decide (x ≤ reachBytes)) = true
  | [], _, _, hd => by cases hd
  | x :: ds, h, d, hd => by
    simp only [DataW.weightsAll, List.all_append, Bool.and_eq_true] at h
    rcases List.mem_cons.1 hd with rfl | hd
    · exact h.1
    · exact weight_all h.2 hd

/-- A nil slice that came in has no room. -/
theorem parts_cap {H : Type} {enc : TypeId × Value → H} {W : World} {v : Value} {d : DataW H} {p : List MemPlace} {base : Nat} {held : Bool} (h : DataW.Trod enc Try.prog W base (fun _ => true) held 22 v d p) : ∀ n c, v = .slice none n c → c = 0 := by
  rintro n c rfl
  obtain ⟨fuel, hf⟩ := h
  rcases Deep.open_slice1 und_parts cells_bytes hf with ⟨hcs, _⟩ | ⟨x, l, c', m, k, V, D, Pl, hcs, _⟩
  · simp [Value.cells] at hcs
    exact hcs.2
  · simp [Value.cells] at hcs
/-- A slice of slices of bytes that came in, however long. -/
theorem open_partsF {H : Type} {enc : TypeId × Value → H} {W : World} {v : Value} {d : DataW H} {p : List MemPlace} {base : Nat} {held : Bool} (h : DataW.Trod enc Try.prog W base (fun _ => true) held 22 v d p) (hs : ∃ a n c, v = .slice a n c)
    (hk : (d.weights Try.prog 22).all (fun x => decide (x ≤ reachBytes)) = true) : ∃ ps : List (List Nat), RdP W v ps := by
  obtain ⟨a, n, c, rfl⟩ := hs
  obtain ⟨fuel, hf⟩ := h
  rcases Deep.open_slice1 und_parts cells_bytes hf with ⟨hcs, hx⟩ | ⟨x, l, c', m, k, V, D, Pl, hcs, _, hl, hm, hmm, hx, hel⟩
  · simp [Value.cells] at hcs
    obtain ⟨rfl, rfl, rfl⟩ := hcs
    exact ⟨[], by simp, none, 0, rfl, .inl rfl⟩
  · simp [Value.cells] at hcs
    obtain ⟨rfl, rfl, rfl⟩ := hcs
    simp only [if_true] at hmm
    simp only [Prod.mk.injEq] at hx
    obtain ⟨hx1, _⟩ := hx
    have hn : n ≤ 281474976710656 := by
      have hs2 : (DataW.weightsEach Try.prog [22] ([d] ++ [])).all (fun x => decide (x ≤ reachBytes)) = true := by simpa [DataW.weightsEach] using hk
      rw [hx1] at hs2
      have := sized_slice hs2 (j := 0) (t := 22) rfl rfl und_parts
      rw [show Try.prog.bytesOf 24 = 24 by kernel_rfl] at this
      simp at this
      unfold reachBytes at this
      omega
    have hw : ∀ j, j < n → ((D j).weights Try.prog 24).all (fun x => decide (x ≤ reachBytes)) = true := by
      intro j hj
      rw [hx1] at hk
      simp only [DataW.weights, und_parts, List.all_cons, List.all_append, Bool.and_eq_true] at hk
      exact weight_all hk.2.1 (by simp only [List.mem_map, List.mem_range]; exact ⟨j, hj, rfl⟩)
    have sum_le : ∀ j, j ≤ n → ∃ ps : List (List Nat), ps.length = j ∧ (∀ i, i < j → Rd W (V i) (ps.getD i [])) := by
      intro j
      induction j with
      | zero => intro _; exact ⟨[], rfl, fun i hi => by omega⟩
      | succ j ih =>
        intro hj
        obtain ⟨ps, hpl, hrd⟩ := ih (by omega)
        obtain ⟨hcell, htr⟩ := hel j (by omega)
        have hsl : ∃ a n c, V j = .slice a n c := by
          rcases DataW.trod_slice und_bytes htr with ⟨h0, _⟩ | ⟨a, len, cap, _, _, _, _, h0, _⟩
          · simp at h0; exact ⟨_, _, _, h0⟩
          · simp at h0; exact ⟨_, _, _, h0⟩
        have htr2 : DataW.Trod enc Try.prog W base (fun _ => true) held 24 (V j) (D j) (Pl j) := by
          obtain ⟨a, n, c, hv⟩ := hsl
          refine ⟨k, ?_⟩
          rw [hv] at htr ⊢
          simpa [Value.cells] using htr
        obtain ⟨bs, hbs, hbl, hfm⟩ := open_bytes htr2 hsl
        have hlen : bs.length ≤ 281474976710656 := by
          have hs2 : (DataW.weightsEach Try.prog [24] ([D j] ++ [])).all (fun x => decide (x ≤ reachBytes)) = true := by simpa [DataW.weightsEach] using hw j (by omega)
          have := reach_bytes hs2 0 rfl rfl hfm
          omega
        refine ⟨ps ++ [bs], by simp [hpl], ?_⟩
        intro i hi
        by_cases hij : i < j
        · have := hrd i hij
          have e : (ps ++ [bs]).getD i [] = ps.getD i [] := by simp [List.getD, List.getElem?_append_left (show i < ps.length by omega)]
          rw [e]
          exact this
        · have hij2 : i = j := by omega
          subst hij2
          have e : (ps ++ [bs]).getD i [] = bs := by simp [List.getD, hpl]
          rw [e]
          exact hbs hlen
    obtain ⟨ps, hpl, hrd⟩ := sum_le n (Nat.le_refl _)
    refine ⟨ps, by omega, some x, c, by rw [hpl], ?_⟩
    by_cases hn0 : n = 0
    · left; exact List.eq_nil_of_length_eq_zero (by omega)
    · right
      obtain ⟨b, off, spot⟩ := x
      have hc := (hel 0 (by omega)).1
      have hspot : spot = none := by simpa [Addr.add] using World.cell?_spot hc
      subst hspot
      refine ⟨b, off, rfl, fun i hi => ⟨V i, ?_, hrd i (by omega)⟩⟩
      have hc := (hel i (by omega)).1
      have e : (⟨b, off, none⟩ : Addr).add i = ⟨b, off + i, none⟩ := by unfold Addr.add; split <;> simp_all
      rw [e] at hc
      exact hc

end Go.Proofs.Ytcangaoamhaagaa
