import Derived.Test.YtieehdhinponcaaJ07
namespace Go.Proofs.Ytieehdhinponcaa
open Go.RowKit
set_option linter.unusedVariables false

theorem half_pos : ∀ t, t < 8 → 0 < 128 / 2 ^ t := by decide
theorem half_pow : ∀ t, t < 8 → 128 / 2 ^ t = 2 ^ (7 - t) := by decide
theorem read_bit (L : List Nat) {j t : Nat} (hj : 6 ≤ j) (ht : t < 8) : (((L.getD j 0 : Nat) : Int) / ((128 / 2 ^ t : Nat) : Int) % 2 == 1) = bitsOf L (8 * (j - 6) + t) := by
  unfold bitsOf bitAt
  rw [half_pow t ht, show (8 * (j - 6) + t) / 8 = j - 6 by omega, show (8 * (j - 6) + t) % 8 = t by omega, Nat.testBit_eq_decide_div_mod_eq]
  have e : (L.drop 6).getD (j - 6) 0 = L.getD j 0 := by simp [List.getD, show 6 + (j - 6) = j by omega]
  rw [e, Bool.eq_iff_iff, beq_iff_eq, decide_eq_true_eq]
  have e2 : ((L.getD j 0 : Nat) : Int) / ((2 ^ (7 - t) : Nat) : Int) % 2 = ((L.getD j 0 / 2 ^ (7 - t) % 2 : Nat) : Int) := by simp
  rw [e2]
  omega

set_option maxRecDepth 100000 in
set_option maxHeartbeats 1000000 in
theorem refRead_any {v : Value} {L : List Nat} {w : World} (hr : Rd w v L) :
    Calls Try.prog 45 #[v] w fun e w' => Below w.heap.size w w' ∧ ((good L = false ∧ e = .returned (.tuple #[.int .i64 0, .slice none 0 0, .bool false])) ∨
      (good L = true ∧ ∃ a c, e = .returned (.tuple #[.int .i64 ((pIn L : Nat) : Int), .slice a (mIn L) c, .bool true]) ∧ w'.ownsRow w.heap.size 4 1 (.slice a (mIn L) c) (mIn L) (bl ((List.range (mIn L)).map (bitsOf L))))) := by
  obtain ⟨hby, a, cap, rfl, hle, hm, hl48, hnone, hat⟩ := hr
  by_cases h14 : 14 ≤ L.length
  · rcases hat with rfl | ⟨b, off, rfl, hc⟩
    · simp at h14
    have h0 := hby.get 0
    have h1 := hby.get 1
    have h2 := hby.get 2
    have h3 := hby.get 3
    have h4 := hby.get 4
    have h5 := hby.get 5
    have c0 := hc 0 (by omega)
    have c1 := hc 1 (by omega)
    have c2 := hc 2 (by omega)
    have c3 := hc 3 (by omega)
    have c4 := hc 4 (by omega)
    have c5 := hc 5 (by omega)
    simp only [Nat.add_zero] at c0
    have hg2 : good L = decide (L.getD 0 0 = 66 ∧ (1 ≤ L.getD 1 0 ∧ L.getD 1 0 ≤ 14) ∧ (mIn L % 8 = 0 ∧ 64 ≤ mIn L ∧ mIn L ≤ 20971520) ∧ L.length = 6 + mIn L / 8) := by
      unfold good pIn
      rw [decide_eq_decide]
      constructor
      · rintro ⟨_, h, ⟨x1, x2, x3, x4, x5⟩, x6⟩; exact ⟨h, ⟨x1, x2⟩, ⟨x3, x4, x5⟩, x6⟩
      · rintro ⟨h, ⟨x1, x2⟩, ⟨x3, x4, x5⟩, x6⟩; exact ⟨by omega, h, ⟨x1, x2, x3, x4, x5⟩, x6⟩
    have hmi : ((((L.getD 2 0 : Nat) : Int) * 256 + ((L.getD 3 0 : Nat) : Int)) * 256 + ((L.getD 4 0 : Nat) : Int)) * 256 + ((L.getD 5 0 : Nat) : Int) = ((mIn L : Nat) : Int) := by unfold mIn; omega
    have hmb : mIn L < 4294967296 := by unfold mIn; omega
    have hHC : Hid (∀ i, i < L.length → w.cell? ⟨b, off + i, none⟩ = some (.int .u8 ((L.getD i 0 : Nat) : Int))) := hc
    have hpi : Hid (pIn L = L.getD 1 0) := rfl
    obtain ⟨M, hM⟩ : ∃ M, M = mIn L := ⟨_, rfl⟩
    have HM : Hid (M = mIn L) := hM
    rw [← hM] at hg2 hmi hmb
    obtain ⟨n, hn⟩ : ∃ n, n = L.length := ⟨_, rfl⟩
    rw [← hn] at hg2
    have HN : Hid (n = L.length) := hn
    have HG : Hid (good L = decide (L.getD 0 0 = 66 ∧ (1 ≤ L.getD 1 0 ∧ L.getD 1 0 ≤ 14) ∧ (M % 8 = 0 ∧ 64 ≤ M ∧ M ≤ 20971520) ∧ n = 6 + M / 8)) := hg2
    rw [← hn] at h14 hle hl48 ⊢
    clear hg2 hM hc hnone hn
    generalize L.getD 0 0 = x0 at *
    generalize L.getD 1 0 = x1 at *
    generalize L.getD 2 0 = x2 at *
    generalize L.getD 3 0 = x3 at *
    generalize L.getD 4 0 = x4 at *
    generalize L.getD 5 0 = x5 at *
    have g0 : (0 : Int) < (n : Int) := by omega
    have g1 : (1 : Int) < (n : Int) := by omega
    have g2 : (2 : Int) < (n : Int) := by omega
    have g3 : (3 : Int) < (n : Int) := by omega
    have g4 : (4 : Int) < (n : Int) := by omega
    have g5 : (5 : Int) < (n : Int) := by omega
    by_cases hx : x0 = 66
    · subst hx
      by_cases hp1 : x1 < 1
      · have hi : (x1 : Int) < 1 := by omega
        have hgf0 : good L = false := by rw [HG.out]; simp; omega
        have hgf : Hid (good L = false) := hgf0
        clear hgf0
        clear HG
        go_enter Try.func45, Try.ntmps45
        go_wp2
        refine bodyPost_ret (v := .tuple #[.int .i64 0, .slice none 0 0, .bool false]) ?_ rfl ⟨Below.refl _ _, .inl ⟨hgf.out, rfl⟩⟩
        simp [results, Try.results45, go_sem]
      by_cases hp2 : 14 < x1
      · have hi : (14 : Int) < (x1 : Int) := by omega
        have hgf0 : good L = false := by rw [HG.out]; simp; omega
        have hgf : Hid (good L = false) := hgf0
        clear hgf0
        clear HG
        go_enter Try.func45, Try.ntmps45
        go_wp2
        refine bodyPost_ret (v := .tuple #[.int .i64 0, .slice none 0 0, .bool false]) ?_ rfl ⟨Below.refl _ _, .inl ⟨hgf.out, rfl⟩⟩
        simp [results, Try.results45, go_sem]
      have hx1 : ¬ ((x1 : Int) < 1) := by omega
      have hx2 : ¬ ((14 : Int) < (x1 : Int)) := by omega
      have hn14 : ¬ ((n : Int) < 14) := by omega
      have d2 : w.drew.cell? ⟨b, off + 2, none⟩ = some (.int .u8 (x2 : Int)) := c2
      have d3 : w.drew.cell? ⟨b, off + 3, none⟩ = some (.int .u8 (x3 : Int)) := c3
      have d4 : w.drew.cell? ⟨b, off + 4, none⟩ = some (.int .u8 (x4 : Int)) := c4
      have d5 : w.drew.cell? ⟨b, off + 5, none⟩ = some (.int .u8 (x5 : Int)) := c5
      have CHW : Hid (IntKind.i64.wrap (x2 : Int) = x2 ∧ IntKind.i64.wrap (x3 : Int) = x3 ∧ IntKind.i64.wrap (x4 : Int) = x4 ∧ IntKind.i64.wrap (x5 : Int) = x5 ∧ IntKind.i64.wrap ((x2 : Int) * 256) = (x2 : Int) * 256 ∧ IntKind.i64.wrap ((x2 : Int) * 256 + x3) = (x2 : Int) * 256 + x3 ∧ IntKind.i64.wrap (((x2 : Int) * 256 + x3) * 256) = ((x2 : Int) * 256 + x3) * 256 ∧ IntKind.i64.wrap (((x2 : Int) * 256 + x3) * 256 + x4) = ((x2 : Int) * 256 + x3) * 256 + x4 ∧ IntKind.i64.wrap ((((x2 : Int) * 256 + x3) * 256 + x4) * 256) = (((x2 : Int) * 256 + x3) * 256 + x4) * 256 ∧ IntKind.i64.wrap ((((x2 : Int) * 256 + x3) * 256 + x4) * 256 + x5) = (M : Int)) := by
        have e : ∀ z : Int, 0 ≤ z → z < 9223372036854775808 → IntKind.i64.wrap z = z := fun z h1 h2 => by rw [IntKind.wrap_i64]; omega
        refine ⟨e _ (by omega) (by omega), e _ (by omega) (by omega), e _ (by omega) (by omega), e _ (by omega) (by omega), e _ (by omega) (by omega), e _ (by omega) (by omega), e _ (by omega) (by omega), e _ (by omega) (by omega), e _ (by omega) (by omega), ?_⟩
        rw [e _ (by omega) (by omega)]
        exact hmi
      clear hmi
      go_enter Try.func45, Try.ntmps45
      go_wp2
      go_region_held3 (fun wx => wx.cell? ⟨b, off + 2, none⟩ = some (.int .u8 (x2 : Int)) ∧ wx.cell? ⟨b, off + 3, none⟩ = some (.int .u8 (x3 : Int)) ∧ wx.cell? ⟨b, off + 4, none⟩ = some (.int .u8 (x4 : Int)) ∧ wx.cell? ⟨b, off + 5, none⟩ = some (.int .u8 (x5 : Int))) (exact ⟨d2, d3, d4, d5⟩) (fail)
      obtain ⟨v1, v2, v3, v4, v5, v6, v7, v8, v9, v10⟩ := CHW.out
      simp only [v1, v2, v3, v4, v5, v6, v7, v8, v9, v10]
      clear v1 v2 v3 v4 v5 v6 v7 v8 v9 v10
      have bw : Below w.heap.size w w.drew := (Below.refl _ _).drew
      have hHC2 : Hid (∀ i, i < n → w.drew.cell? ⟨b, off + i, none⟩ = some (.int .u8 ((L.getD i 0 : Nat) : Int))) := by
        rw [HN.out]; exact hHC.out
      have hbl : b < w.heap.size := World.block_lt_of_cell? w _ c1
      have c1d : w.drew.cell? ⟨b, off + 1, none⟩ = some (.int .u8 (x1 : Int)) := c1
      obtain ⟨W, hW⟩ : ∃ W, W = w.drew := ⟨_, rfl⟩
      rw [← hW] at bw hHC2 c1d
      rw [← hW]
      clear CHW hW c0 c1 c2 c3 c4 c5 d2 d3 d4 d5 hHC g0 g2 g3 g4 g5
      by_cases hm1 : M < 64
      · have hi : (M : Int) < 64 := by omega
        have hgf0 : good L = false := by rw [HG.out]; simp; omega
        have hgf : Hid (good L = false) := hgf0
        clear hgf0
        clear HG
        go_wp2
        refine bodyPost_ret (v := .tuple #[.int .i64 0, .slice none 0 0, .bool false]) ?_ rfl ⟨bw, .inl ⟨hgf.out, rfl⟩⟩
        simp [results, Try.results45, go_sem]
      by_cases hm2 : 20971520 < M
      · have hi : (20971520 : Int) < (M : Int) := by omega
        have hgf0 : good L = false := by rw [HG.out]; simp; omega
        have hgf : Hid (good L = false) := hgf0
        clear hgf0
        clear HG
        go_wp2
        refine bodyPost_ret (v := .tuple #[.int .i64 0, .slice none 0 0, .bool false]) ?_ rfl ⟨bw, .inl ⟨hgf.out, rfl⟩⟩
        simp [results, Try.results45, go_sem]
      have hm1i : ¬ ((M : Int) < 64) := by omega
      have hm2i : ¬ ((20971520 : Int) < (M : Int)) := by omega
      by_cases hm3 : M % 8 = 0
      · have hi3 : ((M : Int) % 8 != 0) = false := by simp; omega
        by_cases hnn : n = 6 + M / 8
        · have hi2 : ((n : Int) != 6 + (M : Int) / 8) = false := by simp; omega
          have hgt : good L = true := by rw [HG.out]; simp; omega
          have HGT : Hid (good L = true) := hgt
          have HNN : Hid (n = 6 + M / 8) := hnn
          have HM3 : Hid (M % 8 = 0) := hm3
          clear HG hgt hnn hm3
          go_wp2
          go_loopw [6, 7] (fun l i wr => ∃ (j s : Nat) (al : Option Addr) (cl : Nat), 6 ≤ j ∧ j ≤ n ∧ s = 8 * (j - 6) ∧ i = .int .i64 (j : Int) ∧ l = .slice al s cl ∧ Hid (wr.ownsRow w.heap.size 4 1 (.slice al s cl) s (bl ((List.range s).map (bitsOf L))) ∧ Below w.heap.size W wr)) (fun _ i _ => n - (intOf i).toNat)
          case atStart => exact ⟨6, 0, none, 0, Nat.le_refl _, by omega, rfl, rfl, rfl, World.ownsRow_nil _ _ _ _, Below.refl _ _⟩
          case round =>
            obtain ⟨j, s, al, cl, hj6, hj, hs, rfl, rfl, HI⟩ := hrel
            have e1 := (HI.out.2.cell (p := ⟨b, off + 1, none⟩) hbl).trans c1d
            by_cases hlt : j < n
            · have hlt2 : (j : Int) < (n : Int) := by omega
              have cj := (HI.out.2.cell (p := ⟨b, off + j, none⟩) hbl).trans (hHC2.out j hlt)
              have hcl := hby.get j
              obtain ⟨c, hcd⟩ : ∃ c, c = L.getD j 0 := ⟨_, rfl⟩
              rw [← hcd] at cj hcl
              have HC : Hid (c = L.getD j 0) := hcd
              have HS : Hid (s = 8 * (j - 6)) := hs
              clear hcd e1 hs
              go_wp2
              go_loopw [6, 9] (fun l k wy => ∃ (t q : Nat) (al : Option Addr) (cl : Nat), t ≤ 8 ∧ q ≤ 128 ∧ k = .int .i64 (q : Int) ∧ Hid (q = 128 / 2 ^ t) ∧ l = .slice al (s + t) cl ∧ Hid (wy.ownsRow w.heap.size 4 1 (.slice al (s + t) cl) (s + t) (bl ((List.range (s + t)).map (bitsOf L))) ∧ Below w.heap.size W wy)) (fun _ k _ => (intOf k).toNat)
              case atStart => exact ⟨0, 128, al, cl, by omega, by omega, rfl, (rfl : (128 : Nat) = 128 / 2 ^ 0), rfl, HI⟩
              case round =>
                clear HI cj
                obtain ⟨t, q, al2, cl2, ht, hq, rfl, HQ, rfl, HI⟩ := hrel
                by_cases ht8 : t < 8
                · have hq0 : 0 < q := by rw [HQ.out]; exact half_pos t ht8
                  have hq0i : (0 : Int) < (q : Int) := by omega
                  obtain ⟨bt, hbt⟩ : ∃ bt, bt = bitsOf L (s + t) := ⟨_, rfl⟩
                  have hcb : ((c : Int) / (q : Int) % 2 == 1) = bt := by rw [hbt, HQ.out, HC.out, HS.out]; exact read_bit L hj6 ht8
                  have HB : Hid (bt = bitsOf L (s + t)) := hbt
                  obtain ⟨q2, hq2⟩ : ∃ q2, q2 = q / 2 := ⟨_, rfl⟩
                  have hq2i : (q : Int) / 2 = (q2 : Int) := by omega
                  have HQ2 : Hid (q2 = 128 / 2 ^ (t + 1)) := by
                    have e : q2 = 128 / 2 ^ (t + 1) := by rw [hq2, HQ.out, Nat.div_div_eq_div_mul, Nat.pow_succ]
                    exact e
                  have hq2l : q2 < q := by omega
                  have hst : s + t ≤ 20971520 := by have := HNN.out; have := HS.out; omega
                  have hcq : (c : Int) / (q : Int) ≤ 255 := by
                    have : c / q ≤ c := Nat.div_le_self _ _
                    have e : (c : Int) / (q : Int) = ((c / q : Nat) : Int) := by simp
                    omega
                  have hcq0 : 0 ≤ (c : Int) / (q : Int) := Int.ediv_nonneg (by omega) (by omega)
                  clear hbt hq2
                  go_wp2_with (at_builtin; refine wpList_append1 75 4 (.bool false) 1 und_bools info_bool rfl rfl _ _ rfl w.heap.size _ _ _ _ rfl HI.out.1 (.bool bt) rfl rfl (by omega) (by decide) (Nat.le_trans bw.size HI.out.2.size) ?_; intro a' c' w5 own5 b5)
                  go_roundw
                  case rel =>
                    refine ⟨t + 1, q2, a', c', by omega, by omega, rfl, HQ2, rfl, ?_, HI.out.2.trans b5⟩
                    rw [← Nat.add_assoc, List.range_succ, List.map_append, List.map_cons, List.map_nil, bl_snoc, ← HB.out]
                    exact own5
                  case measure => simp [intOf]; omega
                · have ht9 : t = 8 := by omega
                  subst ht9
                  have hq0 : q = 0 := HQ.out
                  subst hq0
                  go_wp2
                  go_roundw
                  case rel => exact ⟨j + 1, s + 8, al2, cl2, by omega, by omega, by have := HS.out; omega, by go_num, rfl, HI⟩
                  case measure => simp [intOf]; omega
            · have hjn : j = n := by omega
              have hsM : s = M := by have := HNN.out; have := HM3.out; omega
              subst hsM hjn
              go_wp2
              refine bodyPost_ret (v := .tuple #[.int .i64 (x1 : Int), .slice al s cl, .bool true]) ?_ rfl ⟨bw.trans HI.out.2, .inr ⟨HGT.out, al, cl, ?_, ?_⟩⟩
              · simp [results, Try.results45, go_sem]
              · rw [hpi.out, ← HM.out]
              · rw [← HM.out]; exact HI.out.1
        · have hi : ¬ ((n : Int) = 6 + (M : Int) / 8) := by omega
          have hi2 : ((n : Int) != 6 + (M : Int) / 8) = true := by simp; omega
          have hgf0 : good L = false := by rw [HG.out]; simp; omega
          have hgf : Hid (good L = false) := hgf0
          clear hgf0
          clear HG
          go_wp2
          refine bodyPost_ret (v := .tuple #[.int .i64 0, .slice none 0 0, .bool false]) ?_ rfl ⟨bw, .inl ⟨hgf.out, rfl⟩⟩
          simp [results, Try.results45, go_sem]
      · have hi : ¬ ((M : Int) % 8 = 0) := by omega
        have hi2 : ((M : Int) % 8 != 0) = true := by simp; omega
        have hgf0 : good L = false := by rw [HG.out]; simp; omega
        have hgf : Hid (good L = false) := hgf0
        clear hgf0
        clear HG
        go_wp2
        refine bodyPost_ret (v := .tuple #[.int .i64 0, .slice none 0 0, .bool false]) ?_ rfl ⟨bw, .inl ⟨hgf.out, rfl⟩⟩
        simp [results, Try.results45, go_sem]
    · have hx2 : ((x0 : Int) != 66) = true := by simp; omega
      have hgf0 : good L = false := by rw [HG.out]; simp [hx]
      have hgf : Hid (good L = false) := hgf0
      clear hgf0
      clear HG
      go_enter Try.func45, Try.ntmps45
      go_wp2
      refine bodyPost_ret (v := .tuple #[.int .i64 0, .slice none 0 0, .bool false]) ?_ rfl ⟨Below.refl _ _, .inl ⟨hgf.out, rfl⟩⟩
      simp [results, Try.results45, go_sem]
  · have h62 : (L.length : Int) < 14 := by omega
    have hgf0 : good L = false := by unfold good; simp; omega
    have hgf : Hid (good L = false) := hgf0
    clear hgf0
    go_enter Try.func45, Try.ntmps45
    go_wp2
    refine bodyPost_ret (v := .tuple #[.int .i64 0, .slice none 0 0, .bool false]) ?_ rfl ⟨Below.refl _ _, .inl ⟨hgf.out, rfl⟩⟩
    simp [results, Try.results45, go_sem]
end Go.Proofs.Ytieehdhinponcaa

namespace Go.Proofs.Ytieehdhinponcaa
open Go.RowKit
set_option linter.unusedVariables false

theorem bld_bys (b : Int) (ks : List (List Nat)) : Bys (bldL b ks) ∧ (bldL b ks).length ≤ 3000000 := by
  rcases build_cases b ks with h | ⟨h, bn, rfl, h1, h2, h3⟩
  · have : bldL b ks = [] := by unfold bldL; rcases h with h | h <;> rw [h] <;> rfl
    rw [this]
    exact ⟨(fun x hx => by cases hx), by simp⟩
  · rw [h3]
    exact ⟨build_bys h1 h2, (build_len h1 h2).1⟩
theorem bld_append {b : Int} {ks qs : List (List Nat)} (h : bldE b (ks ++ qs).length = 0) : bldE b ks.length = 0 ∧ bldE b qs.length = 0 := by
  unfold bldE at h ⊢
  split at h
  · cases h
  · split at h
    · cases h
    · rename_i h1 h2
      simp at h2
      rw [if_neg h1, if_neg h1, if_neg (by omega), if_neg (by omega)]
      exact ⟨rfl, rfl⟩

set_option maxRecDepth 100000 in
set_option maxHeartbeats 4000000 in
theorem unions_walk {v1 v2 : Value} {ks qs : List (List Nat)} {w : World} (b : Int) (h1 : RdP w v1 ks) (h2 : RdP w v2 qs) (n1 : ∀ n c, v1 = .slice none n c → c = 0) (n2 : ∀ n c, v2 = .slice none n c → c = 0) (l1 : ks.length ≤ 1048576) (l2 : qs.length ≤ 1048576) :
    Calls Try.prog 5 #[.int .i64 b, v1, v2] w fun e w' => e = .returned (.bool true) ∧ Below w.heap.size w w' := by
  have H1 : Hid (RdP w v1 ks) := h1
  have H2 : Hid (RdP w v2 qs) := h2
  obtain ⟨a1, c1, rfl⟩ := own_rdp_len h1
  obtain ⟨a2, c2, rfl⟩ := own_rdp_len h2
  have HS : Hid (∀ wx : World, Calls Try.prog 12 #[] wx fun e w' => e = .returned (.bool true) ∧ Below wx.heap.size wx w') := started_any
  have HN : Hid (∀ (z : Int) (wx : World), Calls Try.prog 14 #[.int .i64 z] wx fun e w' => e = .returned (.int .i64 z) ∧ w' = wx) := num_any
  have HB1 : Hid (∀ wx : World, Below w.heap.size w wx → Calls Try.prog 13 #[.int .i64 b, .slice a1 ks.length c1] wx fun e w' => ∃ a m c, e = .returned (.tuple #[.slice a m c, .int .i64 ((bldE b ks.length : Nat) : Int)]) ∧ Own w' wx.heap.size (.slice a m c) m (bldL b ks) ∧ Below wx.heap.size wx w') := fun wx hx => build_any b (H1.out.later hx)
  have HB2 : Hid (∀ wx : World, Below w.heap.size w wx → Calls Try.prog 13 #[.int .i64 b, .slice a2 qs.length c2] wx fun e w' => ∃ a m c, e = .returned (.tuple #[.slice a m c, .int .i64 ((bldE b qs.length : Nat) : Int)]) ∧ Own w' wx.heap.size (.slice a m c) m (bldL b qs) ∧ Below wx.heap.size wx w') := fun wx hx => build_any b (H2.out.later hx)
  have HB3 : Hid (∀ (wx : World) (v : Value), RdP wx v (ks ++ qs) → Calls Try.prog 13 #[.int .i64 b, v] wx fun e w' => ∃ a m c, e = .returned (.tuple #[.slice a m c, .int .i64 ((bldE b (ks ++ qs).length : Nat) : Int)]) ∧ Own w' wx.heap.size (.slice a m c) m (bldL b (ks ++ qs)) ∧ Below wx.heap.size wx w') := fun wx v hv => build_any b hv
  obtain ⟨E1, hE1⟩ : ∃ E, E = bldE b ks.length := ⟨_, rfl⟩
  obtain ⟨E2, hE2⟩ : ∃ E, E = bldE b qs.length := ⟨_, rfl⟩
  obtain ⟨E3, hE3⟩ : ∃ E, E = bldE b (ks ++ qs).length := ⟨_, rfl⟩
  rw [← hE1] at HB1
  rw [← hE2] at HB2
  rw [← hE3] at HB3
  have HE : Hid (E1 = bldE b ks.length ∧ E2 = bldE b qs.length ∧ E3 = bldE b (ks ++ qs).length) := ⟨hE1, hE2, hE3⟩
  have HY1 := bld_bys b ks
  have HY2 := bld_bys b qs
  have HY3 := bld_bys b (ks ++ qs)
  have HY : Hid (Bys (bldL b ks) ∧ Bys (bldL b qs) ∧ Bys (bldL b (ks ++ qs))) := ⟨HY1.1, HY2.1, HY3.1⟩
  have q1 := HY1.2
  have q2 := HY2.2
  have q3 := HY3.2
  clear hE1 hE2 hE3 HY1 HY2 HY3
  have HROW1 : Hid (∀ wx : World, Below w.heap.size w wx → ∃ vs, ks.length = vs.length ∧ Row wx vs ks ∧ (vs = [] ∨ ∃ b off, a1 = some ⟨b, off, none⟩) ∧ ∀ x, a1 = some x → ∀ j u, vs[j]? = some u → wx.cell? (x.add j) = some u) := fun wx hx => by
    obtain ⟨vs, e1, e2, e3, e4⟩ := (H1.out.later hx).row
    exact ⟨vs, e2.1.symm, e2, e3.imp (fun h => List.eq_nil_of_length_eq_zero (by rw [e2.1, h]; rfl)) id, e4⟩
  have HROW2 : Hid (∀ wx : World, Below w.heap.size w wx → ∃ vs, qs.length = vs.length ∧ Row wx vs qs ∧ (vs = [] ∨ ∃ b off, a2 = some ⟨b, off, none⟩) ∧ ∀ x, a2 = some x → ∀ j u, vs[j]? = some u → wx.cell? (x.add j) = some u) := fun wx hx => by
    obtain ⟨vs, e1, e2, e3, e4⟩ := (H2.out.later hx).row
    exact ⟨vs, e2.1.symm, e2, e3.imp (fun h => List.eq_nil_of_length_eq_zero (by rw [e2.1, h]; rfl)) id, e4⟩
  have HC1 : Hid (a1 = none → c1 = 0) := fun h => n1 ks.length c1 (by rw [h])
  have HC2 : Hid (a2 = none → c2 = 0) := fun h => n2 qs.length c2 (by rw [h])
  obtain ⟨nk, hnk⟩ : ∃ nk, nk = ks.length := ⟨_, rfl⟩
  obtain ⟨nq, hnq⟩ : ∃ nq, nq = qs.length := ⟨_, rfl⟩
  have HNK : Hid (nk = ks.length ∧ nq = qs.length) := ⟨hnk, hnq⟩
  rw [← hnk] at HB1 HROW1 l1 ⊢
  rw [← hnq] at HB2 HROW2 l2 ⊢
  clear n1 n2 h1 h2 hnk hnq H1 H2
  by_cases hall : E1 = 0 ∧ E2 = 0 ∧ E3 = 0
  · obtain ⟨rfl, rfl, rfl⟩ := hall
    have hz := HE.out
    rcases build_cases b ks with hx | ⟨_, bn, rfl, hb20, hk20, hF⟩
    · omega
    rcases build_cases (bn : Int) qs with hx | ⟨_, bn2, hbe, _, hq20, hG⟩
    · omega
    rcases build_cases (bn : Int) (ks ++ qs) with hx | ⟨_, bn3, hbe3, _, ha20, hLL⟩
    · omega
    have ee : bn2 = bn ∧ bn3 = bn := by omega
    obtain ⟨rfl, rfl⟩ := ee
    rw [hF] at HB1 HY q1
    rw [hG] at HB2 HY q2
    rw [hLL] at HB3 HY q3
    have P1 : Hid (∀ h : (buildL bn3 ks).length = (buildL bn3 qs).length, (buildL bn3 ks).length = (buildL bn3 (ks ++ qs)).length → unionL (buildL bn3 ks) (buildL bn3 qs) = buildL bn3 (ks ++ qs)) := fun h h2 => union_all hb20 hk20 hq20 ha20 h h2
    have P2 : Hid ((uniE (buildL bn3 ks) (buildL bn3 qs) = 0) ↔ (buildL bn3 ks).length = (buildL bn3 qs).length) := uni_len hb20 hk20 hq20
    have P3 : Hid (uniL (buildL bn3 ks) (buildL bn3 qs) = uniL (buildL bn3 qs) (buildL bn3 ks)) := union_comm hb20 hk20 hq20
    have P4 := uni_or hb20 hk20 hq20
    have HXB0 : Bys (uniL (buildL bn3 ks) (buildL bn3 qs)) ∧ (uniL (buildL bn3 ks) (buildL bn3 qs)).length ≤ 7000000 := by
      unfold uniL
      split
      · refine ⟨unionL_bys HY.out.1 HY.out.2.1, ?_⟩
        unfold unionL
        simp only [List.length_append, List.length_take, List.length_zipWith, List.length_drop]
        omega
      · exact ⟨(fun x hx => by cases hx), by simp⟩
    have HAL : Hid (∀ (wx : World) (va vb : Value) (xs ys : List Nat), Rd wx va xs → Rd wx vb ys → Calls Try.prog 18 #[va, vb] wx fun e w' => e = .returned (.bool (decide (xs = ys))) ∧ w' = wx) := fun wx va vb xs ys ha hb => alike_any ha hb
    have HU1 : Hid (∀ (wx : World) (va vb : Value), Rd wx va (buildL bn3 ks) → Rd wx vb (buildL bn3 qs) → Calls Try.prog 15 #[va, vb] wx fun e w' => ∃ a m c, e = .returned (.tuple #[.slice a m c, .int .i64 ((uniE (buildL bn3 ks) (buildL bn3 qs) : Nat) : Int)]) ∧ Own w' wx.heap.size (.slice a m c) m (uniL (buildL bn3 ks) (buildL bn3 qs)) ∧ Below wx.heap.size wx w') := fun wx va vb ha hb => union_any ha hb
    have HU2 : Hid (∀ (wx : World) (va vb : Value), Rd wx va (buildL bn3 qs) → Rd wx vb (buildL bn3 ks) → Calls Try.prog 15 #[va, vb] wx fun e w' => ∃ a m c, e = .returned (.tuple #[.slice a m c, .int .i64 ((uniE (buildL bn3 ks) (buildL bn3 qs) : Nat) : Int)]) ∧ Own w' wx.heap.size (.slice a m c) m (uniL (buildL bn3 ks) (buildL bn3 qs)) ∧ Below wx.heap.size wx w') := fun wx va vb ha hb => by
      rw [P3.out, uni_comm]
      exact union_any ha hb
    have hXu : Hid (uniE (buildL bn3 ks) (buildL bn3 qs) = 0 → uniL (buildL bn3 ks) (buildL bn3 qs) = unionL (buildL bn3 ks) (buildL bn3 qs)) := fun h => by unfold uniL; rw [if_pos h]
    have HXB : Hid (Bys (uniL (buildL bn3 ks) (buildL bn3 qs))) := HXB0.1
    have hX7 := HXB0.2
    clear HXB0 hz hbe hbe3 hF hG hLL hb20 hk20 hq20 ha20 P3
    generalize buildL bn3 ks = F at *
    generalize buildL bn3 qs = G at *
    generalize buildL bn3 (ks ++ qs) = L at *
    generalize uniL F G = X at *
    rcases P4 with hu | hu
    · rw [hu] at HU1 HU2
      have hFG : Hid (F.length = G.length) := P2.out.1 hu
      by_cases hFL : F.length = L.length
      · have hXL0 : decide (X = L) = true := by rw [hXu.out hu, P1.out hFG.out hFL]; simp
        have hXL : Hid (decide (X = L) = true) := hXL0
        have HFL : Hid (F.length = L.length) := hFL
        clear hXL0 hFL
        go_enter Try.func5, Try.ntmps5
        go_wp2_with (first | (have Y5 := b7; go_at_call 15; refine Calls.mono (HU2.out _ _ _ rX.out.2.1 rX.out.1) ?_; rintro e8 w8 ⟨a11, m11, c11, rfl, own11, b8'⟩; have b8 : Below w.heap.size w w8 := b7.trans (b8'.mono b7.size); have rZ : Hid (Rd w8 (.slice a10 m10 c10) X ∧ Rd w8 (.slice a11 m11 c11) X ∧ Rd w8 (.slice a9 _ c9) L) := ⟨rX.out.2.2.2.later b8', own11.rd HXB.out (by rw [own11.1]; omega), rX.out.2.2.1.later b8'⟩) | (go_at_call 15; refine Calls.mono (HU1.out _ _ _ rR.out.1 rR.out.2.1) ?_; rintro e7 w7 ⟨a10, m10, c10, rfl, own10, b7'⟩; have b7 : Below w.heap.size w w7 := b6.trans (b7'.mono b6.size); have rX : Hid (Rd w7 (.slice a7 _ c7) F ∧ Rd w7 (.slice a8 _ c8) G ∧ Rd w7 (.slice a9 _ c9) L ∧ Rd w7 (.slice a10 m10 c10) X) := ⟨rR.out.1.later b7', rR.out.2.1.later b7', rR.out.2.2.later b7', own10.rd HXB.out (by rw [own10.1]; omega)⟩) | (go_at_call_of 18 (Value.slice a11 m11 c11); refine Calls.mono (HAL.out _ _ _ X X rZ.out.1 rZ.out.2.1) ?_; rintro ea wa ⟨rfl, rfl⟩; have dX : decide (X = X) = true := (by simp); rw [dX]) | (go_at_call_of 18 (Value.slice a9 m9 c9); refine Calls.mono (HAL.out _ _ _ X L rZ.out.1 rZ.out.2.2) ?_; rintro ea wa ⟨rfl, rfl⟩; rw [hXL.out]) | (go_at_call 12; refine Calls.mono (HS.out _) ?_; rintro e1 w1 ⟨rfl, b1⟩; obtain ⟨vs, e2, e3, e4, e5⟩ := HROW1.out _ b1; have R1 : Hid (nk = vs.length ∧ Row w1 vs ks ∧ (vs = [] ∨ ∃ b off, a1 = some ⟨b, off, none⟩) ∧ ∀ x, a1 = some x → ∀ j u, vs[j]? = some u → w1.cell? (x.add j) = some u) := ⟨e2, e3, e4, e5⟩; clear e2 e3 e4 e5; obtain ⟨us, e2, e3, e4, e5⟩ := HROW2.out _ b1; have R2 : Hid (nq = us.length ∧ Row w1 us qs ∧ (us = [] ∨ ∃ b off, a2 = some ⟨b, off, none⟩) ∧ ∀ x, a2 = some x → ∀ j u, us[j]? = some u → w1.cell? (x.add j) = some u) := ⟨e2, e3, e4, e5⟩; clear e2 e3 e4 e5) | (have X2 := own2; at_builtin; refine wpList_append_rows rfl _ _ rfl w1.heap.size _ _ _ vs rfl own2 a2 nq c2 us rfl R2.out.1 R2.out.2.1.one R2.out.2.2.1 (fun x hx j u hj => (b2.cell (World.block_lt_of_cell? _ _ (R2.out.2.2.2 x hx j u hj))).trans (R2.out.2.2.2 x hx j u hj)) HC2.out (by omega) b2.size ?_; intro a6 c6 w3 own3 b3'; have b3 : Below w.heap.size w w3 := b1.trans ((b2.trans b3').mono b1.size); have RL : Hid (RdP w3 (.slice a6 (nk + nq) c6) (ks ++ qs)) := rdp_own own3 ((R1.out.2.1.later (b2.trans b3')).append (R2.out.2.1.later (b2.trans b3'))) (by have := HNK.out; simp; omega) (by omega); clear own3 X2 own2) | (at_builtin; refine wpList_append_rows rfl _ _ rfl w1.heap.size none 0 0 [] rfl (World.ownsRow_nil _ _ _ _) a1 nk c1 vs rfl R1.out.1 R1.out.2.1.one R1.out.2.2.1 R1.out.2.2.2 HC1.out (by omega) (Nat.le_refl _) ?_; intro a5 c5 w2 own2 b2; rw [Nat.zero_add, List.nil_append] at own2) | (have Y4 := b5; go_at_call 13; refine Calls.mono (HB3.out _ _ (RL.out.later ((b4'.trans (b5'.mono b4'.size))))) ?_; rintro e6 w6 ⟨a9, m9, c9, rfl, own9, b6'⟩; have b6 : Below w.heap.size w w6 := b5.trans (b6'.mono b5.size); have rR : Hid (Rd w6 (.slice a7 m7 c7) F ∧ Rd w6 (.slice a8 m8 c8) G ∧ Rd w6 (.slice a9 m9 c9) L) := ⟨((own7.rd HY.out.1 (by rw [own7.1]; omega)).later b5').later b6', (own8.rd HY.out.2.1 (by rw [own8.1]; omega)).later b6', own9.rd HY.out.2.2 (by rw [own9.1]; omega)⟩; have em7 : m7 = F.length := own7.1; have em8 : m8 = G.length := own8.1; have em9 : m9 = L.length := own9.1; have e78 : m8 = m7 := (by rw [em8, em7]; exact hFG.out.symm); subst e78; have e79 : m9 = m8 := (by rw [em9, em7]; exact HFL.out.symm); subst e79; clear em7 em8 em9) | (have Y4 := b4; go_at_call 13; refine Calls.mono (HB2.out _ b4) ?_; rintro e5 w5 ⟨a8, m8, c8, rfl, own8, b5'⟩; have b5 : Below w.heap.size w w5 := b4.trans (b5'.mono b4.size)) | (go_at_call 13; refine Calls.mono (HB1.out _ b3) ?_; rintro e4 w4 ⟨a7, m7, c7, rfl, own7, b4'⟩; have b4 : Below w.heap.size w w4 := b3.trans (b4'.mono b3.size)) | (go_at_call 14; refine Calls.mono (HN.out _ _) ?_; rintro en wn ⟨rfl, rfl⟩))
        go_ret
        exact ⟨rfl, b8⟩
      · have hXL : Hid (decide (X = L) = decide (X = L)) := rfl
        have HFL : Hid (¬ F.length = L.length) := hFL
        clear hFL
        go_enter Try.func5, Try.ntmps5
        go_wp2_with (first | (have Y5 := b7; go_at_call 15; refine Calls.mono (HU2.out _ _ _ rX.out.2.1 rX.out.1) ?_; rintro e8 w8 ⟨a11, m11, c11, rfl, own11, b8'⟩; have b8 : Below w.heap.size w w8 := b7.trans (b8'.mono b7.size); have rZ : Hid (Rd w8 (.slice a10 m10 c10) X ∧ Rd w8 (.slice a11 m11 c11) X ∧ Rd w8 (.slice a9 _ c9) L) := ⟨rX.out.2.2.2.later b8', own11.rd HXB.out (by rw [own11.1]; omega), rX.out.2.2.1.later b8'⟩) | (go_at_call 15; refine Calls.mono (HU1.out _ _ _ rR.out.1 rR.out.2.1) ?_; rintro e7 w7 ⟨a10, m10, c10, rfl, own10, b7'⟩; have b7 : Below w.heap.size w w7 := b6.trans (b7'.mono b6.size); have rX : Hid (Rd w7 (.slice a7 _ c7) F ∧ Rd w7 (.slice a8 _ c8) G ∧ Rd w7 (.slice a9 _ c9) L ∧ Rd w7 (.slice a10 m10 c10) X) := ⟨rR.out.1.later b7', rR.out.2.1.later b7', rR.out.2.2.later b7', own10.rd HXB.out (by rw [own10.1]; omega)⟩) | (go_at_call_of 18 (Value.slice a11 m11 c11); refine Calls.mono (HAL.out _ _ _ X X rZ.out.1 rZ.out.2.1) ?_; rintro ea wa ⟨rfl, rfl⟩; have dX : decide (X = X) = true := (by simp); rw [dX]) | (go_at_call_of 18 (Value.slice a9 m9 c9); refine Calls.mono (HAL.out _ _ _ X L rZ.out.1 rZ.out.2.2) ?_; rintro ea wa ⟨rfl, rfl⟩; rw [hXL.out]) | (go_at_call 12; refine Calls.mono (HS.out _) ?_; rintro e1 w1 ⟨rfl, b1⟩; obtain ⟨vs, e2, e3, e4, e5⟩ := HROW1.out _ b1; have R1 : Hid (nk = vs.length ∧ Row w1 vs ks ∧ (vs = [] ∨ ∃ b off, a1 = some ⟨b, off, none⟩) ∧ ∀ x, a1 = some x → ∀ j u, vs[j]? = some u → w1.cell? (x.add j) = some u) := ⟨e2, e3, e4, e5⟩; clear e2 e3 e4 e5; obtain ⟨us, e2, e3, e4, e5⟩ := HROW2.out _ b1; have R2 : Hid (nq = us.length ∧ Row w1 us qs ∧ (us = [] ∨ ∃ b off, a2 = some ⟨b, off, none⟩) ∧ ∀ x, a2 = some x → ∀ j u, us[j]? = some u → w1.cell? (x.add j) = some u) := ⟨e2, e3, e4, e5⟩; clear e2 e3 e4 e5) | (have X2 := own2; at_builtin; refine wpList_append_rows rfl _ _ rfl w1.heap.size _ _ _ vs rfl own2 a2 nq c2 us rfl R2.out.1 R2.out.2.1.one R2.out.2.2.1 (fun x hx j u hj => (b2.cell (World.block_lt_of_cell? _ _ (R2.out.2.2.2 x hx j u hj))).trans (R2.out.2.2.2 x hx j u hj)) HC2.out (by omega) b2.size ?_; intro a6 c6 w3 own3 b3'; have b3 : Below w.heap.size w w3 := b1.trans ((b2.trans b3').mono b1.size); have RL : Hid (RdP w3 (.slice a6 (nk + nq) c6) (ks ++ qs)) := rdp_own own3 ((R1.out.2.1.later (b2.trans b3')).append (R2.out.2.1.later (b2.trans b3'))) (by have := HNK.out; simp; omega) (by omega); clear own3 X2 own2) | (at_builtin; refine wpList_append_rows rfl _ _ rfl w1.heap.size none 0 0 [] rfl (World.ownsRow_nil _ _ _ _) a1 nk c1 vs rfl R1.out.1 R1.out.2.1.one R1.out.2.2.1 R1.out.2.2.2 HC1.out (by omega) (Nat.le_refl _) ?_; intro a5 c5 w2 own2 b2; rw [Nat.zero_add, List.nil_append] at own2) | (have Y4 := b5; go_at_call 13; refine Calls.mono (HB3.out _ _ (RL.out.later ((b4'.trans (b5'.mono b4'.size))))) ?_; rintro e6 w6 ⟨a9, m9, c9, rfl, own9, b6'⟩; have b6 : Below w.heap.size w w6 := b5.trans (b6'.mono b5.size); have rR : Hid (Rd w6 (.slice a7 m7 c7) F ∧ Rd w6 (.slice a8 m8 c8) G ∧ Rd w6 (.slice a9 m9 c9) L) := ⟨((own7.rd HY.out.1 (by rw [own7.1]; omega)).later b5').later b6', (own8.rd HY.out.2.1 (by rw [own8.1]; omega)).later b6', own9.rd HY.out.2.2 (by rw [own9.1]; omega)⟩; have em7 : m7 = F.length := own7.1; have em8 : m8 = G.length := own8.1; have em9 : m9 = L.length := own9.1; have e78 : m8 = m7 := (by rw [em8, em7]; exact hFG.out.symm); subst e78; have n1 : ((m8 : Int) != (m9 : Int)) = true := (by have := HFL.out; rw [bne_iff_ne]; omega); have n2 : ¬ ((m8 : Int) = (m9 : Int)) := (by have := HFL.out; omega); clear em7 em8 em9) | (have Y4 := b4; go_at_call 13; refine Calls.mono (HB2.out _ b4) ?_; rintro e5 w5 ⟨a8, m8, c8, rfl, own8, b5'⟩; have b5 : Below w.heap.size w w5 := b4.trans (b5'.mono b4.size)) | (go_at_call 13; refine Calls.mono (HB1.out _ b3) ?_; rintro e4 w4 ⟨a7, m7, c7, rfl, own7, b4'⟩; have b4 : Below w.heap.size w w4 := b3.trans (b4'.mono b3.size)) | (go_at_call 14; refine Calls.mono (HN.out _ _) ?_; rintro en wn ⟨rfl, rfl⟩))
        go_ret
        exact ⟨rfl, b8⟩
    · rw [hu] at HU1 HU2
      have hFG : Hid (¬ F.length = G.length) := fun h => by have := P2.out.2 h; omega
      have hXL : Hid (decide (X = L) = decide (X = L)) := rfl
      go_enter Try.func5, Try.ntmps5
      go_wp2_with (first | (have Y5 := b7; go_at_call 15; refine Calls.mono (HU2.out _ _ _ rX.out.2.1 rX.out.1) ?_; rintro e8 w8 ⟨a11, m11, c11, rfl, own11, b8'⟩; have b8 : Below w.heap.size w w8 := b7.trans (b8'.mono b7.size); have rZ : Hid (Rd w8 (.slice a10 m10 c10) X ∧ Rd w8 (.slice a11 m11 c11) X ∧ Rd w8 (.slice a9 _ c9) L) := ⟨rX.out.2.2.2.later b8', own11.rd HXB.out (by rw [own11.1]; omega), rX.out.2.2.1.later b8'⟩) | (go_at_call 15; refine Calls.mono (HU1.out _ _ _ rR.out.1 rR.out.2.1) ?_; rintro e7 w7 ⟨a10, m10, c10, rfl, own10, b7'⟩; have b7 : Below w.heap.size w w7 := b6.trans (b7'.mono b6.size); have rX : Hid (Rd w7 (.slice a7 _ c7) F ∧ Rd w7 (.slice a8 _ c8) G ∧ Rd w7 (.slice a9 _ c9) L ∧ Rd w7 (.slice a10 m10 c10) X) := ⟨rR.out.1.later b7', rR.out.2.1.later b7', rR.out.2.2.later b7', own10.rd HXB.out (by rw [own10.1]; omega)⟩) | (go_at_call_of 18 (Value.slice a11 m11 c11); refine Calls.mono (HAL.out _ _ _ X X rZ.out.1 rZ.out.2.1) ?_; rintro ea wa ⟨rfl, rfl⟩; have dX : decide (X = X) = true := (by simp); rw [dX]) | (go_at_call_of 18 (Value.slice a9 m9 c9); refine Calls.mono (HAL.out _ _ _ X L rZ.out.1 rZ.out.2.2) ?_; rintro ea wa ⟨rfl, rfl⟩; rw [hXL.out]) | (go_at_call 12; refine Calls.mono (HS.out _) ?_; rintro e1 w1 ⟨rfl, b1⟩; obtain ⟨vs, e2, e3, e4, e5⟩ := HROW1.out _ b1; have R1 : Hid (nk = vs.length ∧ Row w1 vs ks ∧ (vs = [] ∨ ∃ b off, a1 = some ⟨b, off, none⟩) ∧ ∀ x, a1 = some x → ∀ j u, vs[j]? = some u → w1.cell? (x.add j) = some u) := ⟨e2, e3, e4, e5⟩; clear e2 e3 e4 e5; obtain ⟨us, e2, e3, e4, e5⟩ := HROW2.out _ b1; have R2 : Hid (nq = us.length ∧ Row w1 us qs ∧ (us = [] ∨ ∃ b off, a2 = some ⟨b, off, none⟩) ∧ ∀ x, a2 = some x → ∀ j u, us[j]? = some u → w1.cell? (x.add j) = some u) := ⟨e2, e3, e4, e5⟩; clear e2 e3 e4 e5) | (have X2 := own2; at_builtin; refine wpList_append_rows rfl _ _ rfl w1.heap.size _ _ _ vs rfl own2 a2 nq c2 us rfl R2.out.1 R2.out.2.1.one R2.out.2.2.1 (fun x hx j u hj => (b2.cell (World.block_lt_of_cell? _ _ (R2.out.2.2.2 x hx j u hj))).trans (R2.out.2.2.2 x hx j u hj)) HC2.out (by omega) b2.size ?_; intro a6 c6 w3 own3 b3'; have b3 : Below w.heap.size w w3 := b1.trans ((b2.trans b3').mono b1.size); have RL : Hid (RdP w3 (.slice a6 (nk + nq) c6) (ks ++ qs)) := rdp_own own3 ((R1.out.2.1.later (b2.trans b3')).append (R2.out.2.1.later (b2.trans b3'))) (by have := HNK.out; simp; omega) (by omega); clear own3 X2 own2) | (at_builtin; refine wpList_append_rows rfl _ _ rfl w1.heap.size none 0 0 [] rfl (World.ownsRow_nil _ _ _ _) a1 nk c1 vs rfl R1.out.1 R1.out.2.1.one R1.out.2.2.1 R1.out.2.2.2 HC1.out (by omega) (Nat.le_refl _) ?_; intro a5 c5 w2 own2 b2; rw [Nat.zero_add, List.nil_append] at own2) | (have Y4 := b5; go_at_call 13; refine Calls.mono (HB3.out _ _ (RL.out.later ((b4'.trans (b5'.mono b4'.size))))) ?_; rintro e6 w6 ⟨a9, m9, c9, rfl, own9, b6'⟩; have b6 : Below w.heap.size w w6 := b5.trans (b6'.mono b5.size); have rR : Hid (Rd w6 (.slice a7 m7 c7) F ∧ Rd w6 (.slice a8 m8 c8) G ∧ Rd w6 (.slice a9 m9 c9) L) := ⟨((own7.rd HY.out.1 (by rw [own7.1]; omega)).later b5').later b6', (own8.rd HY.out.2.1 (by rw [own8.1]; omega)).later b6', own9.rd HY.out.2.2 (by rw [own9.1]; omega)⟩; have em7 : m7 = F.length := own7.1; have em8 : m8 = G.length := own8.1; have em9 : m9 = L.length := own9.1; have n1 : ((m7 : Int) == (m8 : Int)) = false := (by have := hFG.out; rw [beq_eq_false_iff_ne]; omega); have n2 : ¬ ((m7 : Int) = (m8 : Int)) := (by have := hFG.out; omega); clear em7 em8 em9) | (have Y4 := b4; go_at_call 13; refine Calls.mono (HB2.out _ b4) ?_; rintro e5 w5 ⟨a8, m8, c8, rfl, own8, b5'⟩; have b5 : Below w.heap.size w w5 := b4.trans (b5'.mono b4.size)) | (go_at_call 13; refine Calls.mono (HB1.out _ b3) ?_; rintro e4 w4 ⟨a7, m7, c7, rfl, own7, b4'⟩; have b4 : Below w.heap.size w w4 := b3.trans (b4'.mono b3.size)) | (go_at_call 14; refine Calls.mono (HN.out _ _) ?_; rintro en wn ⟨rfl, rfl⟩))
      go_ret
      exact ⟨rfl, b8⟩
  · have HA : Hid (¬ (E1 = 0 ∧ E2 = 0 ∧ E3 = 0)) := hall
    clear hall
    go_enter Try.func5, Try.ntmps5
    go_wp2_with (first | (go_at_call 12; refine Calls.mono (HS.out _) ?_; rintro e1 w1 ⟨rfl, b1⟩; obtain ⟨vs, e2, e3, e4, e5⟩ := HROW1.out _ b1; have R1 : Hid (nk = vs.length ∧ Row w1 vs ks ∧ (vs = [] ∨ ∃ b off, a1 = some ⟨b, off, none⟩) ∧ ∀ x, a1 = some x → ∀ j u, vs[j]? = some u → w1.cell? (x.add j) = some u) := ⟨e2, e3, e4, e5⟩; clear e2 e3 e4 e5; obtain ⟨us, e2, e3, e4, e5⟩ := HROW2.out _ b1; have R2 : Hid (nq = us.length ∧ Row w1 us qs ∧ (us = [] ∨ ∃ b off, a2 = some ⟨b, off, none⟩) ∧ ∀ x, a2 = some x → ∀ j u, us[j]? = some u → w1.cell? (x.add j) = some u) := ⟨e2, e3, e4, e5⟩; clear e2 e3 e4 e5) | (have X2 := own2; at_builtin; refine wpList_append_rows rfl _ _ rfl w1.heap.size _ _ _ vs rfl own2 a2 nq c2 us rfl R2.out.1 R2.out.2.1.one R2.out.2.2.1 (fun x hx j u hj => (b2.cell (World.block_lt_of_cell? _ _ (R2.out.2.2.2 x hx j u hj))).trans (R2.out.2.2.2 x hx j u hj)) HC2.out (by omega) b2.size ?_; intro a6 c6 w3 own3 b3'; have b3 : Below w.heap.size w w3 := b1.trans ((b2.trans b3').mono b1.size); have RL : Hid (RdP w3 (.slice a6 (nk + nq) c6) (ks ++ qs)) := rdp_own own3 ((R1.out.2.1.later (b2.trans b3')).append (R2.out.2.1.later (b2.trans b3'))) (by have := HNK.out; simp; omega) (by omega); clear own3 X2 own2) | (at_builtin; refine wpList_append_rows rfl _ _ rfl w1.heap.size none 0 0 [] rfl (World.ownsRow_nil _ _ _ _) a1 nk c1 vs rfl R1.out.1 R1.out.2.1.one R1.out.2.2.1 R1.out.2.2.2 HC1.out (by omega) (Nat.le_refl _) ?_; intro a5 c5 w2 own2 b2; rw [Nat.zero_add, List.nil_append] at own2) | (have Y4 := b5; go_at_call 13; refine Calls.mono (HB3.out _ _ (RL.out.later ((b4'.trans (b5'.mono b4'.size))))) ?_; rintro e6 w6 ⟨a9, m9, c9, rfl, own9, b6'⟩; have b6 : Below w.heap.size w w6 := b5.trans (b6'.mono b5.size)) | (have Y4 := b4; go_at_call 13; refine Calls.mono (HB2.out _ b4) ?_; rintro e5 w5 ⟨a8, m8, c8, rfl, own8, b5'⟩; have b5 : Below w.heap.size w w5 := b4.trans (b5'.mono b4.size)) | (go_at_call 13; refine Calls.mono (HB1.out _ b3) ?_; rintro e4 w4 ⟨a7, m7, c7, rfl, own7, b4'⟩; have b4 : Below w.heap.size w w4 := b3.trans (b4'.mono b3.size)) | (go_at_call 14; refine Calls.mono (HN.out _ _) ?_; rintro en wn ⟨rfl, rfl⟩))
    all_goals first
      | (go_ret; exact ⟨rfl, b6⟩)
      | (exfalso; have hz : ((E3 : Int) != 0) = false := (by assumption); exact HA.out ⟨by omega, by omega, by simpa using hz⟩)
end Go.Proofs.Ytieehdhinponcaa
