import Derived.Test.YtieehdhinponcaaJ12
import Derived.Deep.RegionHeld3
namespace Go.Proofs.Ytieehdhinponcaa
open Go.RowKit
set_option linter.unusedVariables false

theorem bldE_le (b : Int) (n : Nat) : bldE b n ≤ 61 := by
  unfold bldE
  split
  · decide
  · split <;> decide
set_option maxRecDepth 100000 in
set_option maxHeartbeats 4000000 in
theorem builds_any {vk vf vg : Value} {ks : List (List Nat)} {k0 N : Int} {w : World} (hk : RdP w vk ks) (hl : ∀ i, (ks.getD i []).length ≤ 140737488351232) (hn : ks.length ≤ 5864062014634) :
    Calls Try.prog 52 #[.agg #[.int .i64 k0, .int .i64 N, vk, vf, vg]] w fun e w' => e = .returned (.bool true) ∧ Below w.heap.size w w' := by
  obtain ⟨a, cap, rfl⟩ := own_rdp_len hk
  obtain ⟨n, hnn⟩ : ∃ n, n = ks.length := ⟨_, rfl⟩
  obtain ⟨W0, hW0⟩ : ∃ W0, W0 = w.alloc (.cells #[.int .i64 k0, .int .i64 N, .slice a ks.length cap, vf, vg] 42) := ⟨_, rfl⟩
  have b0 : Below w.heap.size w W0 := by rw [hW0]; exact (Below.refl _ _).alloc (Nat.le_refl _) _
  have hsz : w.heap.size < W0.heap.size := by rw [hW0]; simp
  have HK : Hid (∀ wx, Below W0.heap.size W0 wx → wx.cell? ⟨w.heap.size, 1, none⟩ = some (.int .i64 N) ∧ wx.cell? ⟨w.heap.size, 2, none⟩ = some (.slice a ks.length cap)) := by
    have h : ∀ wx, Below W0.heap.size W0 wx → wx.cell? ⟨w.heap.size, 1, none⟩ = some (.int .i64 N) ∧ wx.cell? ⟨w.heap.size, 2, none⟩ = some (.slice a ks.length cap) := fun wx hx => by
      refine ⟨(hx.cell (p := ⟨w.heap.size, 1, none⟩) hsz).trans ?_, (hx.cell (p := ⟨w.heap.size, 2, none⟩) hsz).trans ?_⟩
      all_goals (rw [hW0, Joins.cell_of_block (World.alloc_heap_new w _)]; rfl)
    exact h
  have RF : Hid (∀ wx, Below W0.heap.size W0 wx → RdP wx (.slice a ks.length cap) ks) := by
    have h : ∀ wx, Below W0.heap.size W0 wx → RdP wx (.slice a ks.length cap) ks := fun wx hx => (hk.later b0).later hx
    exact h
  have HL : Hid (∀ i, (ks.getD i []).length ≤ 140737488351232) := hl
  have HB : Hid (∀ k ∈ ks, Bys k) := rdp_bys hk
  have HN : Hid (n = ks.length) := hnn
  have BW : Hid (∀ wx, Below W0.heap.size W0 wx → Below w.heap.size w wx) := by
    have h : ∀ wx, Below W0.heap.size W0 wx → Below w.heap.size w wx := fun wx hx => b0.trans (hx.mono b0.size)
    exact h
  rw [← hnn] at HK RF hW0 hn ⊢
  clear hk hl hnn hsz b0
  go_enter Try.func52, Try.ntmps52
  go_wp2
  rw [← hW0]
  clear hW0
  go_loopw [3, 4, 5, 6] (fun vi vw i x wr => ∃ (t : Nat) (ai aw : Option Addr) (ci cw : Nat) (us is : List Value), t ≤ n ∧ i = .int .i64 ((t : Nat) : Int) ∧ vi = .slice ai t ci ∧ vw = .slice aw t cw ∧ BdS W0 wr ks t t t (.slice aw t cw) (.slice ai t ci) us is) (fun _ _ i _ _ => n - (intOf i).toNat)
  case atStart => exact ⟨0, none, none, 0, 0, [], [], Nat.zero_le _, rfl, rfl, rfl, BdS.nil _ _ _ (Below.refl _ _)⟩
  case round =>
    obtain ⟨t, ai, aw, ci, cw, us, is, htn, rfl, rfl, rfl, hS⟩ := hrel
    have HS : Hid (BdS W0 wr ks t t t (.slice aw t cw) (.slice ai t ci) us is) := hS
    have bel := hS.bel
    clear hS
    obtain ⟨q1, q2⟩ := HK.out _ bel
    by_cases hlt : t < n
    · have hlt2 : (t : Int) < (n : Int) := by omega
      obtain ⟨b, off, rfl, u, hc, hu⟩ : ∃ b off, a = some ⟨b, off, none⟩ ∧ ∃ u, wr.cell? ⟨b, off + t, none⟩ = some u ∧ Rd wr u (ks.getD t []) := by
        obtain ⟨_, a1, c1, h2, hp⟩ := RF.out _ bel
        simp only [Value.slice.injEq] at h2
        obtain ⟨rfl, _, rfl⟩ := h2
        rcases hp with rfl | ⟨b, off, rfl, hc⟩
        · have := HN.out; simp at this; omega
        · obtain ⟨u, h1, h2⟩ := hc t (by rw [← HN.out]; exact hlt)
          exact ⟨b, off, rfl, u, h1, h2⟩
      obtain ⟨au, nu, cu, rfl⟩ := rd_slice hu
      have HU : Hid (Rd wr (.slice au nu cu) (ks.getD t [])) := hu
      have hnu : Hid (nu = (ks.getD t []).length) := (rd_lens hu).1
      have hnu2 : nu ≤ 140737488351232 := by have := HL.out t; have := hnu.out; omega
      clear hu
      go_wp2_with (go_at_call 23; fail)
      refine Calls.mono (wide_own HU.out hnu2) ?_
      rintro e1 w1 ⟨g, c, rfl, own1, hc1, hc2, b1⟩
      have HO1 : Hid (Own w1 wr.heap.size (.slice (some ⟨g, 0, none⟩) (nu + 5) c) (nu + 5) (ks.getD t [] ++ marksL)) := own1
      have HS1 : Hid (BdS W0 w1 ks t t t (.slice aw t cw) (.slice ai t ci) us is) := HS.out.later b1
      clear own1
      have i1 : (0 : Int) ≤ (nu : Int) := by omega
      have i2 : (nu : Int) ≤ (c : Int) := by omega
      unfold maxLen at hc2
      have HC3 : Hid (∀ wx, Below W0.heap.size W0 wx → wx.cell? ⟨b, off + t, none⟩ = some (.slice au nu cu)) := by
        have h : ∀ wx, Below W0.heap.size W0 wx → wx.cell? ⟨b, off + t, none⟩ = some (.slice au nu cu) := fun wx hx => by
          have hb := RF.out _ (Below.refl _ _)
          obtain ⟨_, a1, c1, h2, hp⟩ := hb
          simp only [Value.slice.injEq] at h2
          obtain ⟨h3, _, _⟩ := h2
          rcases hp with h0 | ⟨b', off', h4, hcc⟩
          · have := HN.out; rw [h0] at this; simp at this; omega
          · rw [h4] at h3
            cases h3
            obtain ⟨u', h5, _⟩ := hcc t (by rw [← HN.out]; exact hlt)
            have h6 := (bel.cell (p := ⟨b, off + t, none⟩) (World.block_lt_of_cell? _ _ h5)).trans h5
            rw [hc] at h6
            rw [(hx.cell (p := ⟨b, off + t, none⟩) (World.block_lt_of_cell? _ _ h5)).trans h5, ← h6]
        exact h
      go_wp2_with (first | (have X := HS2; at_builtin; refine wpList_append_part rfl _ _ rfl W0.heap.size _ _ _ is rfl HS2.out.ri _ rfl rfl (by omega) HS2.out.bel.size ?_; intro a3 c3 w3 hr3 hg3 hl3; have HS3 : Hid (BdS W0 w3 ks t (t + 1) (t + 1) (.slice a2 (t + 1) c2) (.slice a3 (t + 1) c3) (us ++ [.slice (some ⟨g, 0, none⟩) (nu + 5) c]) (is ++ [.slice (some ⟨g, 0, none⟩) nu c])) := HS2.out.growI hg3 hr3 hl3; have HO3 : Hid (Own w3 wr.heap.size (.slice (some ⟨g, 0, none⟩) (nu + 5) c) (nu + 5) (ks.getD t [] ++ marksL)) := HO2.out.kept_row HS2.out.ri (by decide) hg3; clear hr3 hg3 hl3) | (at_builtin; refine wpList_append_part rfl _ _ rfl W0.heap.size _ _ _ us rfl HS1.out.rw_ _ rfl rfl (by omega) HS1.out.bel.size ?_; intro a2 c2 w2 hr2 hg2 hl2; have HS2 : Hid (BdS W0 w2 ks t (t + 1) t (.slice a2 (t + 1) c2) (.slice ai t ci) (us ++ [.slice (some ⟨g, 0, none⟩) (nu + 5) c]) is) := HS1.out.growW hg2 hr2 hl2; have HO2 : Hid (Own w2 wr.heap.size (.slice (some ⟨g, 0, none⟩) (nu + 5) c) (nu + 5) (ks.getD t [] ++ marksL)) := HO1.out.kept_row HS1.out.rw_ (by decide) hg2; clear hr2 hg2 hl2; have q4 := (HK.out _ HS2.out.bel).2; have hc3 := HC3.out _ HS2.out.bel))
      go_roundw
      case rel => 
        have e1 : t = us.length := by have := HS.out.rw_.1; simpa using this.symm
        have e2 : t = is.length := by have := HS.out.ri.1; simpa using this.symm
        refine ⟨t + 1, a3, a2, c3, c2, _, _, by omega, by go_num, rfl, rfl, HS3.out.more (g := g) (c := c) ?_ ?_ ?_⟩
        · rw [← hnu.out, List.getElem?_append_right (by omega)]; simp [e1]
        · rw [← hnu.out, List.getElem?_append_right (by omega)]; simp [e2]
        · rw [← hnu.out]; exact HO3.out.mono bel.size
      case measure => simp [intOf]; omega
    · have htn2 : t = n := by omega
      subst htn2
      have hge : ¬ ((t : Int) < (t : Int)) := by omega
      obtain ⟨w0, hw0⟩ : ∃ w0, w0 = wr.alloc (.cells #[.int .u8 77] 5) := ⟨_, rfl⟩
      have HW0 : Hid (w0 = wr.alloc (.cells #[.int .u8 77] 5)) := hw0
      have b1 : Below wr.heap.size wr w0 := by rw [hw0]; exact (Below.refl _ _).alloc (Nat.le_refl _) _
      have HS1 : Hid (BdS W0 w0 ks t t t (.slice aw t cw) (.slice ai t ci) us is) := HS.out.later b1
      clear hw0
      have hw0s : Hid (w0.heap.size = wr.heap.size + 1) := by
        have h : w0.heap.size = wr.heap.size + 1 := by rw [HW0.out]; simp
        exact h
      go_wp2_with (at_builtin; rw [← HW0.out]; refine wpList_append_part rfl _ _ rfl W0.heap.size _ _ _ is rfl HS1.out.ri _ rfl (by rw [hw0s.out]; rfl) (by omega) HS1.out.bel.size ?_; intro a3 c3 w3 hr3 hg3 hl3; have HS3 : Hid (BdS W0 w3 ks t t (t + 1) (.slice aw t cw) (.slice a3 (t + 1) c3) us (is ++ [.slice (some ⟨wr.heap.size, 0, none⟩) 1 1])) := HS1.out.growI hg3 hr3 hl3; clear hr3 hg3 hl3)
      have hil : is.length = t := by have := HS.out.ri.1; simpa using this
      obtain ⟨g3, rfl, hcn, _⟩ := HS3.out.cellI (j := t) (u := .slice (some ⟨wr.heap.size, 0, none⟩) 1 1) (by rw [List.getElem?_append_right (by omega), hil]; simp)
      have hc3 : t + 1 ≤ c3 ∧ c3 ≤ maxLen := by
        rcases HS3.out.ri.2 with ⟨h1, h2⟩ | ⟨g, cap', cur, h1, _, _, h5, h6, _⟩
        · omega
        · cases h1; exact ⟨h5, h6⟩
      have hcnl := World.block_lt_of_cell? _ _ hcn
      have HL2 : Hid (∀ wx, Below w3.heap.size w3 wx → wx.cell? ⟨g3, t, none⟩ = some (.slice (some ⟨wr.heap.size, 0, none⟩) 1 1)) := by
        have h : ∀ wx, Below w3.heap.size w3 wx → wx.cell? ⟨g3, t, none⟩ = some (.slice (some ⟨wr.heap.size, 0, none⟩) 1 1) := fun wx hx => (hx.cell (p := ⟨g3, t, none⟩) hcnl).trans hcn
        exact h
      clear hcn hcnl hil
      have HB3 : Hid (∀ wx, Below w3.heap.size w3 wx → Below W0.heap.size W0 wx) := by
        have h : ∀ wx, Below w3.heap.size w3 wx → Below W0.heap.size W0 wx := fun wx hx => HS3.out.bel.trans (hx.mono HS3.out.bel.size)
        exact h
      obtain ⟨E, hE⟩ : ∃ E, E = bldE N ks.length := ⟨_, rfl⟩
      obtain ⟨L, hLL⟩ : ∃ L, L = bldL N ks := ⟨_, rfl⟩
      have HE : Hid (E ≤ 61) := by
        have h : E ≤ 61 := by rw [hE]; exact bldE_le _ _
        exact h
      have HBd : Hid (∀ wx, Below w3.heap.size w3 wx → Calls Try.prog 13 #[.int .i64 N, .slice (some ⟨g3, 0, none⟩) t c3] wx fun e w' => ∃ a m c, e = .returned (.tuple #[.slice a m c, .int .i64 ((E : Nat) : Int)]) ∧ Rd w' (.slice a m c) L ∧ Below w3.heap.size w3 w') := by
        have h : ∀ wx, Below w3.heap.size w3 wx → Calls Try.prog 13 #[.int .i64 N, .slice (some ⟨g3, 0, none⟩) t c3] wx fun e w' => ∃ a m c, e = .returned (.tuple #[.slice a m c, .int .i64 ((E : Nat) : Int)]) ∧ Rd w' (.slice a m c) L ∧ Below w3.heap.size w3 w' := fun wx hx => by
          have hr : RdP w3 (.slice (some ⟨g3, 0, none⟩) t c3) ks := by
            have hS := HS3.out
            have hl := HN.out
            have hb := hn
            subst hl
            exact hS.rdp HB.out HL.out (by omega)
          refine (build_any N (hr.later hx)).mono ?_
          rintro e w' ⟨a, m, c, rfl, own, b⟩
          refine ⟨a, m, c, by rw [hE], ?_, hx.trans (b.mono hx.size)⟩
          rw [hLL]
          exact own.rd (bldL_bys _ _) (by have := own.1; have := bldL_len N ks; omega)
        exact h
      have HRb : Hid (∀ wx, Below w3.heap.size w3 wx → Calls Try.prog 24 #[.int .i64 N, .slice a t cap] wx fun e w' => ∃ a m c, e = .returned (.tuple #[.slice a m c, .int .i64 ((E : Nat) : Int)]) ∧ Rd w' (.slice a m c) L ∧ Below wx.heap.size wx w') := by
        have h : ∀ wx, Below w3.heap.size w3 wx → Calls Try.prog 24 #[.int .i64 N, .slice a t cap] wx fun e w' => ∃ a m c, e = .returned (.tuple #[.slice a m c, .int .i64 ((E : Nat) : Int)]) ∧ Rd w' (.slice a m c) L ∧ Below wx.heap.size wx w' := fun wx hx => by
          refine (refBuild_any N (RF.out _ (HB3.out _ hx))).mono ?_
          rintro e w' ⟨a, m, c, rfl, own, b⟩
          refine ⟨a, m, c, by rw [hE], ?_, b⟩
          rw [hLL]
          exact own.rd (bldL_bys _ _) (by have := own.1; have := bldL_len N ks; omega)
        exact h
      have hE2 := HE.out
      clear hE hLL
      have bd : Below w3.heap.size w3 w3.drew := (Below.refl _ _).drew
      have p0 := HK.out _ (HB3.out _ bd)
      have i1 : (0 : Int) ≤ (t : Int) := by omega
      have i2 : (t : Int) ≤ (c3 : Int) := by omega
      have hc4 : c3 ≤ 9223372036854775807 := hc3.2
      clear q1 q2
      go_region_held3 (fun wx => wx.cell? ⟨w.heap.size, 1, none⟩ = some (.int .i64 N) ∧ wx.cell? ⟨w.heap.size, 2, none⟩ = some (.slice a t cap)) (first | exact p0 | exact p4) (first | (go_at_call 13; refine Calls.mono (HBd.out _ bd) ?_; rintro e4 w4 ⟨a4, m4, c4, rfl, r4, b4⟩; have p4 := HK.out _ (HB3.out _ b4)))
      have R4 : Hid (Rd w4 (.slice a4 m4 c4) L) := r4
      obtain ⟨q1, q2⟩ := HK.out _ (HB3.out _ b4)
      clear r4
      go_wp2_with (go_at_call 24; fail)
      refine Calls.mono (HRb.out _ b4) ?_
      rintro e5 w5 ⟨a5, m5, c5, rfl, r5, b5⟩
      have R5 : Hid (Rd w5 (.slice a4 m4 c4) L ∧ Rd w5 (.slice a5 m5 c5) L) := ⟨R4.out.later b5, r5⟩
      have b35 := b4.trans (b5.mono b4.size)
      obtain ⟨q1, q2⟩ := HK.out _ (HB3.out _ b35)
      have q6 := HL2.out _ b35
      have i3 : (t : Int) < ((t + 1 : Nat) : Int) := by omega
      clear r5
      go_wp2_with (first | (go_at_call 14; refine Calls.mono (num_any _ _) ?_; rintro e6 w6 ⟨rfl, rfl⟩) | (go_at_call 18; refine Calls.mono (alike_any R5.out.1 R5.out.2) ?_; rintro e7 w7 ⟨rfl, rfl⟩; rw [show decide (L = L) = true by simp]))
      have HS7 : Hid (∀ wx, Below w7.heap.size w7 wx → BdS W0 wx ks t t (t + 1) (.slice aw t cw) (.slice (some ⟨g3, 0, none⟩) (t + 1) c3) us (is ++ [.slice (some ⟨wr.heap.size, 0, none⟩) 1 1])) := by
        have h : ∀ wx, Below w7.heap.size w7 wx → BdS W0 wx ks t t (t + 1) (.slice aw t cw) (.slice (some ⟨g3, 0, none⟩) (t + 1) c3) us (is ++ [.slice (some ⟨wr.heap.size, 0, none⟩) 1 1]) := fun wx hx => (HS3.out.later b35).later hx
        exact h
      have hE3 := hE2
      clear HS HS1 HS3 HBd HRb R4 R5 b4 b5 b35 q1 q2 q6 bd p0 HB3 HL2 hw0s HW0 HE hE2 bel b1 p4
      go_loopw [11, 12] (fun x i wr => ∃ k : Nat, k ≤ t ∧ i = .int .i64 ((k : Nat) : Int) ∧ x = .bool true ∧ Below w7.heap.size w7 wr) (fun _ i _ => t - (intOf i).toNat)
      case atStart => exact ⟨0, Nat.zero_le _, rfl, rfl, Below.refl _ _⟩
      case round =>
        obtain ⟨k, hkt, rfl, rfl, hb⟩ := hrel
        have hS := HS7.out _ hb
        have HS8 : Hid (BdS W0 wr ks t t (t + 1) (.slice aw t cw) (.slice (some ⟨g3, 0, none⟩) (t + 1) c3) us _) := hS
        have BB : Hid (∀ wx, Below wr.heap.size wr wx → Below W0.heap.size W0 wx) := by
          have h : ∀ wx, Below wr.heap.size wr wx → Below W0.heap.size W0 wx := fun wx hx => HS8.out.bel.trans (hx.mono HS8.out.bel.size)
          exact h
        clear hS
        have q2 := (HK.out _ (BB.out _ (Below.refl _ _))).2
        by_cases hlt : k < t
        · have hlt2 : (k : Int) < (t : Int) := by omega
          have hlt3 : (k : Int) < ((t + 1 : Nat) : Int) := by omega
          have hlt4 : (k : Int) < (t : Int) + 1 := by omega
          obtain ⟨g, c, hu1, hu2, hr1, hr2⟩ := HS8.out.rd HB.out HL.out hlt (by rw [← HN.out]; exact Nat.le_refl _)
          obtain ⟨gw, rfl, hcw, _⟩ := HS8.out.cellW hu1
          obtain ⟨g4, e4, hci, _⟩ := HS8.out.cellI hu2
          cases e4
          obtain ⟨b, off, rfl, u, hc, hu⟩ : ∃ b off, a = some ⟨b, off, none⟩ ∧ ∃ u, wr.cell? ⟨b, off + k, none⟩ = some u ∧ Rd wr u (ks.getD k []) := by
            obtain ⟨_, a1, c1, h2, hp⟩ := RF.out _ (BB.out _ (Below.refl _ _))
            simp only [Value.slice.injEq] at h2
            obtain ⟨rfl, _, rfl⟩ := h2
            rcases hp with rfl | ⟨b, off, rfl, hc⟩
            · have := HN.out; simp at this; omega
            · obtain ⟨u, h1, h2⟩ := hc k (by rw [← HN.out]; exact hlt)
              exact ⟨b, off, rfl, u, h1, h2⟩
          obtain ⟨au, nu, cu, rfl⟩ := rd_slice hu
          obtain ⟨ln, hln⟩ : ∃ ln, ln = (ks.getD k []).length := ⟨_, rfl⟩
          have hnu : nu = ln := by rw [hln]; exact (rd_lens hu).1
          subst hnu
          rw [← hln] at hcw hci hr1 hr2
          have l1 := World.block_lt_of_cell? _ _ hc
          have l2 := World.block_lt_of_cell? _ _ hcw
          have l3 := World.block_lt_of_cell? _ _ hci
          have HQ : Hid (∀ wx, Below wr.heap.size wr wx → wx.cell? ⟨w.heap.size, 2, none⟩ = some (.slice (some ⟨b, off, none⟩) t cap) ∧ wx.cell? ⟨b, off + k, none⟩ = some (.slice au nu cu) ∧ wx.cell? ⟨gw, k, none⟩ = some (.slice (some ⟨g, 0, none⟩) (nu + 5) c) ∧ wx.cell? ⟨g3, k, none⟩ = some (.slice (some ⟨g, 0, none⟩) nu c)) := by
            have h : ∀ wx, Below wr.heap.size wr wx → wx.cell? ⟨w.heap.size, 2, none⟩ = some (.slice (some ⟨b, off, none⟩) t cap) ∧ wx.cell? ⟨b, off + k, none⟩ = some (.slice au nu cu) ∧ wx.cell? ⟨gw, k, none⟩ = some (.slice (some ⟨g, 0, none⟩) (nu + 5) c) ∧ wx.cell? ⟨g3, k, none⟩ = some (.slice (some ⟨g, 0, none⟩) nu c) := fun wx hx =>
              ⟨(HK.out _ (BB.out _ hx)).2, (hx.cell (p := ⟨b, off + k, none⟩) l1).trans hc, (hx.cell (p := ⟨gw, k, none⟩) l2).trans hcw, (hx.cell (p := ⟨g3, k, none⟩) l3).trans hci⟩
            exact h
          have HKe : Hid (∀ wx, Below wr.heap.size wr wx → Calls Try.prog 29 #[.slice (some ⟨g, 0, none⟩) (nu + 5) c, .slice au nu cu] wx fun e w' => e = .returned (.bool true) ∧ Below wr.heap.size wr w') := by
            have h : ∀ wx, Below wr.heap.size wr wx → Calls Try.prog 29 #[.slice (some ⟨g, 0, none⟩) (nu + 5) c, .slice au nu cu] wx fun e w' => e = .returned (.bool true) ∧ Below wr.heap.size wr w' := fun wx hx =>
              (kept_any (hr1.later hx) (hu.later hx)).mono fun e w' h => ⟨h.1, hx.trans (h.2.mono hx.size)⟩
            exact h
          have HAl : Hid (∀ wx, Below wr.heap.size wr wx → Calls Try.prog 18 #[.slice (some ⟨g, 0, none⟩) nu c, .slice au nu cu] wx fun e w' => e = .returned (.bool true) ∧ w' = wx) := by
            have h : ∀ wx, Below wr.heap.size wr wx → Calls Try.prog 18 #[.slice (some ⟨g, 0, none⟩) nu c, .slice au nu cu] wx fun e w' => e = .returned (.bool true) ∧ w' = wx := fun wx hx =>
              (alike_any (hr2.later hx) (hu.later hx)).mono fun e w' h => ⟨by rw [h.1]; simp, h.2⟩
            exact h
          have bd : Below wr.heap.size wr wr.drew := (Below.refl _ _).drew
          have p0 := HQ.out _ bd
          have p9 := HQ.out _ (Below.refl _ _)
          have z0 : (0 : Int) ≤ (k : Int) := by omega
          have HBb : Hid (Below w7.heap.size w7 wr) := hb
          have hlim : t ≤ 5864062014634 := hn
          clear hu1 hu2 hr1 hr2 hu hln l1 l2 l3 hc hcw hci hb
          go_wp2
          go_region_held3 (fun wx => wx.cell? ⟨w.heap.size, 2, none⟩ = some (.slice (some ⟨b, off, none⟩) t cap) ∧ wx.cell? ⟨b, off + k, none⟩ = some (.slice au nu cu) ∧ wx.cell? ⟨gw, k, none⟩ = some (.slice (some ⟨g, 0, none⟩) (nu + 5) c) ∧ wx.cell? ⟨g3, k, none⟩ = some (.slice (some ⟨g, 0, none⟩) nu c)) (first | exact p0 | exact p5) (first | (go_at_call 29; refine Calls.mono (HKe.out _ bd) ?_; rintro e5 w5 ⟨rfl, b5⟩; have p5 := HQ.out _ b5) | (go_at_call 18; refine Calls.mono (HAl.out _ b5) ?_; rintro e6 w6 ⟨rfl, rfl⟩))
          go_wp2
          go_roundw
          case rel => exact ⟨k + 1, by omega, by go_num, rfl, HBb.out.trans (b5.mono HBb.out.size)⟩
          case measure => simp [intOf]; omega
        · have hk2 : k = t := by omega
          subst hk2
          have hge2 : ¬ ((k : Int) < (k : Int)) := by omega
          go_wp2
          go_ret
          exact ⟨rfl, BW.out _ (BB.out _ (Below.refl _ _))⟩
end Go.Proofs.Ytieehdhinponcaa

namespace Go.Proofs.Ytieehdhinponcaa
open Go.RowKit
set_option linter.unusedVariables false

set_option maxRecDepth 100000 in
set_option maxHeartbeats 1000000 in
theorem asked1 {aF aG : Option Addr} {nF cF nG cG : Nat} {F G : List Nat} {N : Int} {vk : Value} {ks : List (List Nat)} {w : World} (hk : RdP w vk ks) (hF : Rd w (.slice aF nF cF) F) (hG : Rd w (.slice aG nG cG) G) (lF : nF ≤ 140737488351232) (lG : nG ≤ 140737488351232) (hl : ∀ i, (ks.getD i []).length ≤ 140737488351232) (hn : ks.length ≤ 5864062014634) :
    Calls Try.prog 46 #[.agg #[.int .i64 1, .int .i64 N, vk, .slice aF nF cF, .slice aG nG cG]] w fun e w' => e = .returned (.bool true) ∧ Below w.heap.size w w' := by
  obtain ⟨W0, hW0⟩ : ∃ W0, W0 = w.alloc (.cells #[.int .i64 1, .int .i64 N, vk, .slice aF nF cF, .slice aG nG cG] 42) := ⟨_, rfl⟩
  have b0 : Below w.heap.size w W0 := by rw [hW0]; exact (Below.refl _ _).alloc (Nat.le_refl _) _
  have hsz : w.heap.size < W0.heap.size := by rw [hW0]; simp
  have HK : Hid (∀ wx, Below W0.heap.size W0 wx → wx.cell? ⟨w.heap.size, 0, none⟩ = some (.int .i64 1) ∧ wx.cell? ⟨w.heap.size, 1, none⟩ = some (.int .i64 N) ∧ wx.cell? ⟨w.heap.size, 2, none⟩ = some vk ∧ wx.cell? ⟨w.heap.size, 3, none⟩ = some (.slice aF nF cF) ∧ wx.cell? ⟨w.heap.size, 4, none⟩ = some (.slice aG nG cG)) := by
    have h : ∀ wx, Below W0.heap.size W0 wx → wx.cell? ⟨w.heap.size, 0, none⟩ = some (.int .i64 1) ∧ wx.cell? ⟨w.heap.size, 1, none⟩ = some (.int .i64 N) ∧ wx.cell? ⟨w.heap.size, 2, none⟩ = some vk ∧ wx.cell? ⟨w.heap.size, 3, none⟩ = some (.slice aF nF cF) ∧ wx.cell? ⟨w.heap.size, 4, none⟩ = some (.slice aG nG cG) := fun wx hx => by
      refine ⟨(hx.cell (p := ⟨w.heap.size, 0, none⟩) hsz).trans ?_, (hx.cell (p := ⟨w.heap.size, 1, none⟩) hsz).trans ?_, (hx.cell (p := ⟨w.heap.size, 2, none⟩) hsz).trans ?_, (hx.cell (p := ⟨w.heap.size, 3, none⟩) hsz).trans ?_, (hx.cell (p := ⟨w.heap.size, 4, none⟩) hsz).trans ?_⟩
      all_goals (rw [hW0, Joins.cell_of_block (World.alloc_heap_new w _)]; rfl)
    exact h
  have RF : Hid (∀ wx, Below W0.heap.size W0 wx → Rd wx (.slice aF nF cF) F) := by
    have h : ∀ wx, Below W0.heap.size W0 wx → Rd wx (.slice aF nF cF) F := fun wx hx => (hF.later b0).later hx
    exact h
  have RG : Hid (∀ wx, Below W0.heap.size W0 wx → Rd wx (.slice aG nG cG) G) := by
    have h : ∀ wx, Below W0.heap.size W0 wx → Rd wx (.slice aG nG cG) G := fun wx hx => (hG.later b0).later hx
    exact h
  have RB : Hid (∀ wx, Below W0.heap.size W0 wx → Calls Try.prog 52 #[.agg #[.int .i64 1, .int .i64 N, vk, .slice aF nF cF, .slice aG nG cG]] wx fun e w' => e = .returned (.bool true) ∧ Below w.heap.size w w') := by
    have h : ∀ wx, Below W0.heap.size W0 wx → Calls Try.prog 52 #[.agg #[.int .i64 1, .int .i64 N, vk, .slice aF nF cF, .slice aG nG cG]] wx fun e w' => e = .returned (.bool true) ∧ Below w.heap.size w w' := fun wx hx =>
      (builds_any ((hk.later b0).later hx) hl hn).mono fun e w' h => ⟨h.1, (b0.trans (hx.mono b0.size)).trans (h.2.mono (Nat.le_trans b0.size hx.size))⟩
    exact h
  clear hF hG hsz hk hl hn b0
  go_enter Try.func46, Try.ntmps46
  go_wp2_with (first | (go_at_call_of 23 (Value.slice aF nF cF); rw [← hW0]; clear hW0; refine Calls.mono (wide_at (RF.out _ (Below.refl _ _)) lF) ?_; rintro e1 w1 ⟨g1, c1, rfl, r1, b1⟩; obtain ⟨q10, q11, q12, q13, q14⟩ := HK.out _ b1) | (have BB := b1; go_at_call_of 23 (Value.slice aG nG cG); refine Calls.mono (wide_at (RG.out _ b1) lG) ?_; rintro e2 w2 ⟨g2, c2, rfl, r2, b2⟩; obtain ⟨q20, q21, q22, q23, q24⟩ := HK.out _ (b1.trans (b2.mono b1.size))))
  have B2 := b1.trans (b2.mono b1.size)
  go_wp2_with (go_at_call 52; fail)
  refine Calls.mono (RB.out _ B2) ?_
  rintro e3 w3 ⟨rfl, b3⟩
  go_wp2
  go_ret
  exact ⟨rfl, b3⟩

theorem ask_asked1 {w : World} {o : AskD} (h : AskD.Ok w o) (h1 : 1 ≤ o.k) (h2 : o.k ≤ 5) (w2 : World) (hb : Below w.heap.size w w2) :
    Calls Try.prog 46 #[.agg #[.int .i64 o.k, .int .i64 o.n, o.vk, o.vf, o.vg]] w2 fun e w' => e = .returned (.bool true) ∧ Below w2.heap.size w2 w' := by
  by_cases h3 : 2 ≤ o.k
  · exact ask_asked h h3 h2 w2 hb
  · obtain ⟨k, n, vk, vf, vg, ks, F, G⟩ := o
    obtain ⟨hk, hf, hg, lf, lg, _, _, hl, hn⟩ := h
    simp only at h1 h2 h3 hk hf hg lf lg hl hn ⊢
    obtain rfl : k = 1 := by omega
    obtain ⟨aF, nF, cF, rfl⟩ := rd_slice hf
    obtain ⟨aG, nG, cG, rfl⟩ := rd_slice hg
    have e1 := (rd_lens hf).1
    have e2 := (rd_lens hg).1
    exact asked1 (hk.later hb) (hf.later hb) (hg.later hb) (by omega) (by omega) hl hn

set_option maxRecDepth 100000 in
set_option maxHeartbeats 1000000 in
theorem bloomPlays_walk {v : Value} {os : List AskD} {w : World} (ho : RdA w v os) :
    Calls Try.prog 11 #[v] w fun e w' => e = .returned (.bool true) ∧ Below w.heap.size w w' := by
  have HP : Hid (Calls Try.prog 31 #[v, .int .i64 1, .int .i64 5] w fun e w' => e = .returned (.bool true) ∧ Below w.heap.size w w') := by
    refine plays_any 1 5 ho fun o hm h1 h2 w2 hb => ?_
    obtain ⟨_, a, cap, _, hc⟩ := ho
    rcases hc with h0 | ⟨b, off, _, hcell⟩
    · rw [h0] at hm; cases hm
    · obtain ⟨i, hi⟩ := List.mem_iff_getElem?.1 hm
      exact ask_asked1 (hcell i o hi).2 h1 h2 w2 hb
  obtain ⟨_, a, cap, rfl, _⟩ := ho
  go_enter Try.func11, Try.ntmps11
  go_wp2_with (go_at_call 31; fail)
  refine HP.out.mono ?_
  rintro e w1 ⟨rfl, b1⟩
  go_wp2
  go_ret
  exact ⟨rfl, b1⟩

/-- So many nil slices. -/
theorem rdp_nils (w : World) (n : Nat) (hn : n ≤ 281474976710656) (g : Nat) (hc : ∀ i, i < n → w.cell? ⟨g, i, none⟩ = some (.slice none 0 0)) : RdP w (.slice (some ⟨g, 0, none⟩) n n) (List.replicate n []) := by
  refine ⟨by simpa using hn, some ⟨g, 0, none⟩, n, by simp, .inr ⟨g, 0, rfl, fun i hi => ⟨.slice none 0 0, ?_, ?_⟩⟩⟩
  · rw [Nat.zero_add]; exact hc i (by simpa using hi)
  · have e : (List.replicate n ([] : List Nat)).getD i [] = [] := by
      simp only [List.getD, List.getElem?_replicate]
      split <;> rfl
    rw [e]
    exact Rd.nil w
theorem rdp_made {w : World} {B n g : Nat} (h : w.ownsRow B 24 1 (.slice (some ⟨g, 0, none⟩) n n) n (madeCells (Value.slice none 0 0).cells (n * 1)).toList) (hn : n ≤ 281474976710656) : ∃ ks : List (List Nat), ks.length = n ∧ RdP w (.slice (some ⟨g, 0, none⟩) n n) ks := by
  refine ⟨List.replicate n [], by simp, rdp_nils w n hn g fun i hi => ?_⟩
  have e : (madeCells (Value.slice none 0 0).cells (n * 1)).toList = List.replicate (n * 1) (.slice none 0 0) := toList_madeCells_one _ _
  rw [e] at h
  rw [h.cellAt i (by omega), List.getElem?_replicate, if_pos (by omega)]
set_option maxRecDepth 100000 in
set_option maxHeartbeats 1000000 in
theorem many_any (w : World) : Calls Try.prog 32 #[] w fun e w' => e = .returned (.bool true) ∧ Below w.heap.size w w' := by
  obtain ⟨i0, hi, hz0, hz1, hz2⟩ := info_parts info_bytes
  have HB : Hid (∀ (n : Nat), n = 1048577 → ∀ (wx : World) (g : Nat) (b : Int) (ks : List (List Nat)), ks.length = n → RdP wx (.slice (some ⟨g, 0, none⟩) n n) ks → Calls Try.prog 13 #[.int .i64 b, .slice (some ⟨g, 0, none⟩) n n] wx fun e w' => ∃ a m c, e = .returned (.tuple #[.slice a m c, .int .i64 ((bldE b n : Nat) : Int)]) ∧ Below wx.heap.size wx w') := by
    intro n _ wx g b ks hl hr
    refine (build_any b hr).mono ?_
    rintro e w' ⟨a, m, c, rfl, _, hb⟩
    rw [hl]
    exact ⟨a, m, c, rfl, hb⟩
  have e0 : ((bldE 0 1048577 : Nat) : Int) = 60 := by decide
  have e1 : ((bldE 20 1048577 : Nat) : Int) = 61 := by decide
  go_enter Try.func32, Try.ntmps32
  go_wp2_with (first | (at_make; refine wpList_make_full _ rfl _ _ 22 rfl w.heap.size 24 i0 (.slice none 0 0) 1 und_parts hi hz0 hz1 .i64 .i64 _ _ 1048577 rfl rfl rfl rfl (by rw [hz2]; decide) (by decide) (Nat.le_refl _) ?_; intro w3 own3 gr3; obtain ⟨ks, hkl, hkr⟩ := rdp_made own3 (by decide); have KR : Hid (ks.length = 1048577 ∧ RdP w3 (.slice (some ⟨w.heap.size, 0, none⟩) 1048577 1048577) ks) := ⟨hkl, hkr⟩; have b3 : Below w.heap.size w w3 := (Below.refl _ _).grown gr3 (Nat.le_refl _) (fun k hk => by cases hk); clear own3 hkl hkr gr3) | (have X := b4; go_at_call 13; refine Calls.mono (HB.out _ rfl _ _ _ ks KR.out.1 (KR.out.2.later b4)) ?_; rintro e5 w5 ⟨a5, m5, c5, rfl, b5⟩; rw [e1]) | (go_at_call 13; refine Calls.mono (HB.out _ rfl _ _ _ ks KR.out.1 KR.out.2) ?_; rintro e4 w4 ⟨a4, m4, c4, rfl, b4⟩; rw [e0]) | (go_at_call 14; refine Calls.mono (num_any _ _) ?_; rintro e6 w6 ⟨rfl, rfl⟩))
  go_ret
  exact ⟨rfl, b3.trans ((b4.trans (b5.mono b4.size)).mono b3.size)⟩
set_option maxRecDepth 100000 in
set_option maxHeartbeats 1000000 in
theorem bloomBuilds_walk {v : Value} {os : List AskD} {w : World} (ho : RdA w v os) :
    Calls Try.prog 9 #[v] w fun e w' => e = .returned (.bool true) ∧ Below w.heap.size w w' := by
  have HP : Hid (Calls Try.prog 31 #[v, .int .i64 1, .int .i64 1] w fun e w' => e = .returned (.bool true) ∧ Below w.heap.size w w') := by
    refine plays_any 1 1 ho fun o hm h1 h2 w2 hb => ?_
    obtain ⟨_, a, cap, _, hc⟩ := ho
    rcases hc with h0 | ⟨b, off, _, hcell⟩
    · rw [h0] at hm; cases hm
    · obtain ⟨i, hi⟩ := List.mem_iff_getElem?.1 hm
      exact ask_asked1 (hcell i o hi).2 h1 (by omega) w2 hb
  obtain ⟨_, a, cap, rfl, _⟩ := ho
  go_enter Try.func9, Try.ntmps9
  go_wp2_with (first | (go_at_call 31; refine HP.out.mono ?_; rintro e w1 ⟨rfl, b1⟩) | (go_at_call 32; refine (many_any _).mono ?_; rintro e2 w2 ⟨rfl, b2⟩))
  go_ret
  exact ⟨rfl, b1.trans (b2.mono b1.size)⟩
end Go.Proofs.Ytieehdhinponcaa
