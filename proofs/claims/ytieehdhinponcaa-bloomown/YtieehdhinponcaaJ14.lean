import Derived.Test.YtieehdhinponcaaJ13
import Derived.Test.YtieehdhinponcaaRows
import Derived.Test.YtieehdhinponcaaJ00
import Derived.ProofKit
import Derived.OpenShut
import Derived.Deep.DeepHandedRow
import Derived.Lib.LaidTab
import Derived.Deep.Slices
namespace Go.Proofs.Ytieehdhinponcaa
open Go.RowKit
set_option linter.unusedVariables false

set_option maxRecDepth 100000 in
set_option maxHeartbeats 4000000 in
theorem own_walk {v1 : Value} {ks : List (List Nat)} {w : World} (b : Int) (h1 : RdP w v1 ks) :
    Calls Try.prog 6 #[.int .i64 b, v1] w fun e w' => e = .returned (.bool true) ∧ Below w.heap.size w w' := by
  have H1 : Hid (RdP w v1 ks) := h1
  obtain ⟨a1, c1, rfl⟩ := own_rdp_len h1
  clear h1
  have HS : Hid (∀ wx : World, Calls Try.prog 12 #[] wx fun e w' => e = .returned (.bool true) ∧ Below wx.heap.size wx w') := started_any
  have HN : Hid (∀ (z : Int) (wx : World), Calls Try.prog 14 #[.int .i64 z] wx fun e w' => e = .returned (.int .i64 z) ∧ w' = wx) := num_any
  by_cases hE : bldE b ks.length = 0
  · obtain ⟨nk, hnk⟩ : ∃ nk, nk = ks.length := ⟨_, rfl⟩
    obtain ⟨F, hF⟩ : ∃ F, F = bldL b ks := ⟨_, rfl⟩
    obtain ⟨NF, hNF⟩ : ∃ NF, NF = F.length := ⟨_, rfl⟩
    have HB : Hid (∀ wx : World, Below w.heap.size w wx → Calls Try.prog 13 #[.int .i64 b, .slice a1 nk c1] wx fun e w' => ∃ g c, e = .returned (.tuple #[.slice (some ⟨g, 0, none⟩) NF c, .int .i64 0]) ∧ Own w' wx.heap.size (.slice (some ⟨g, 0, none⟩) NF c) NF F ∧ Below wx.heap.size wx w') := by
      rw [hNF, hF, hnk]
      have h : ∀ wx : World, Below w.heap.size w wx → Calls Try.prog 13 #[.int .i64 b, .slice a1 ks.length c1] wx fun e w' => ∃ g c, e = .returned (.tuple #[.slice (some ⟨g, 0, none⟩) (bldL b ks).length c, .int .i64 0]) ∧ Own w' wx.heap.size (.slice (some ⟨g, 0, none⟩) (bldL b ks).length c) (bldL b ks).length (bldL b ks) ∧ Below wx.heap.size wx w' := fun wx hx => build_ok b (H1.out.later hx) hE
      exact h
    have HU : Hid (∀ (wx : World) (va vb : Value), Rd wx va F → Rd wx vb F → Calls Try.prog 15 #[va, vb] wx fun e w' => ∃ g c, e = .returned (.tuple #[.slice (some ⟨g, 0, none⟩) NF c, .int .i64 0]) ∧ Own w' wx.heap.size (.slice (some ⟨g, 0, none⟩) NF c) NF F ∧ Below wx.heap.size wx w') := by
      rw [hNF, hF]
      have h : ∀ (wx : World) (va vb : Value), Rd wx va (bldL b ks) → Rd wx vb (bldL b ks) → Calls Try.prog 15 #[va, vb] wx fun e w' => ∃ g c, e = .returned (.tuple #[.slice (some ⟨g, 0, none⟩) (bldL b ks).length c, .int .i64 0]) ∧ Own w' wx.heap.size (.slice (some ⟨g, 0, none⟩) (bldL b ks).length c) (bldL b ks).length (bldL b ks) ∧ Below wx.heap.size wx w' := fun wx va vb ha hb => union_ok hE ha hb
      exact h
    have HBy : Hid (Bys F) := by rw [hF]; exact bldL_bys _ _
    have hlen : NF ≤ 3000000 := by rw [hNF, hF]; exact bldL_len _ _
    have HNF : Hid (NF = F.length) := hNF
    rw [← hnk]
    clear hNF hF hnk hE H1
    go_enter Try.func6, Try.ntmps6
    go_wp2_with (go_at_call 12; fail)
    refine Calls.mono (HS.out _) ?_
    rintro e1 w1 ⟨rfl, b1⟩
    go_wp2_with (go_at_call 13; fail)
    refine Calls.mono (HB.out _ b1) ?_
    rintro e2 w2 ⟨gA, cA, rfl, oA, b2⟩
    have B2 := b1.trans (b2.mono b1.size)
    have S2 : Hid (Sh w2 w.heap.size [.slice (some ⟨gA, 0, none⟩) NF cA] [F]) := (Sh.nil w1 w.heap.size).snoc (x := F) b2 (by rw [← HNF.out]; exact oA) b1.size
    have OA : Hid (Own w2 w1.heap.size (.slice (some ⟨gA, 0, none⟩) NF cA) NF F) := oA
    clear oA
    go_wp2_with (go_at_call 13; fail)
    refine Calls.mono (HB.out _ B2) ?_
    rintro e3 w3 ⟨gB, cB, rfl, oB, b3⟩
    have B3 := B2.trans (b3.mono B2.size)
    have S3 : Hid (Sh w3 w.heap.size [.slice (some ⟨gA, 0, none⟩) NF cA, .slice (some ⟨gB, 0, none⟩) NF cB] [F, F]) := S2.out.snoc (x := F) b3 (by rw [← HNF.out]; exact oB) B2.size
    have RA3 : Hid (Rd w3 (.slice (some ⟨gA, 0, none⟩) NF cA) F) := (OA.out.later b3).rd HBy.out (by omega)
    have RB3 : Hid (Rd w3 (.slice (some ⟨gB, 0, none⟩) NF cB) F) := oB.rd HBy.out (by omega)
    clear oB
    go_wp2_with (first | (go_at_call 14; refine Calls.mono (HN.out _ _) ?_; rintro en wn ⟨rfl, rfl⟩) | (at_builtin; refine wpList_append_at rfl _ _ rfl wn.heap.size _ _ _ _ rfl (ownNil _ _) _ _ _ _ rfl RA3.out (by omega) (Nat.le_refl _) ?_; intro a4 m4 c4 w4 own4 b4; have O4 : Hid (Own w4 wn.heap.size (.slice a4 m4 c4) m4 F) := own4; clear own4) | (have X := b4; go_at_call 15; fail))
    have hm4 : m4 = NF := by have := O4.out.1; have := HNF.out; omega
    subst hm4
    have B4 := B3.trans (b4.mono B3.size)
    have K4 : Hid (Sh w4 w.heap.size [.slice (some ⟨gA, 0, none⟩) m4 cA, .slice (some ⟨gB, 0, none⟩) m4 cB] [F, F] ∧ Kx w4 w.heap.size [.slice (some ⟨gA, 0, none⟩) m4 cA, .slice (some ⟨gB, 0, none⟩) m4 cB] [.slice a4 m4 c4] [F]) :=
      ⟨S3.out.later b4, (Kx.nil wn w.heap.size _).snocU (x := F) S3.out b4 (by rw [← HNF.out]; exact O4.out) B3.size⟩
    refine Calls.mono (HU.out _ _ _ (RA3.out.later b4) (RB3.out.later b4)) ?_
    rintro e5 w5 ⟨gU, cU, rfl, oU, b5⟩
    have B5 := B4.trans (b5.mono B4.size)
    have K5 : Hid (Sh w5 w.heap.size [.slice (some ⟨gA, 0, none⟩) m4 cA, .slice (some ⟨gB, 0, none⟩) m4 cB, .slice (some ⟨gU, 0, none⟩) m4 cU] [F, F, F] ∧ Kx w5 w.heap.size [.slice (some ⟨gA, 0, none⟩) m4 cA, .slice (some ⟨gB, 0, none⟩) m4 cB, .slice (some ⟨gU, 0, none⟩) m4 cU] [.slice a4 m4 c4] [F]) :=
      ⟨K4.out.1.snoc (x := F) b5 (by rw [← HNF.out]; exact oU) B4.size, K4.out.2.snocV b5 oU⟩
    clear oU
    have RA5 : Hid (Rd w5 (.slice (some ⟨gA, 0, none⟩) m4 cA) F) := (RA3.out.later b4).later b5
    go_wp2_with (go_at_call 15; fail)
    refine Calls.mono (HU.out _ _ _ RA5.out RA5.out) ?_
    rintro e6 w6 ⟨gV, cV, rfl, oV, b6⟩
    have B6 := B5.trans (b6.mono B5.size)
    have K6 : Hid (Sh w6 w.heap.size [.slice (some ⟨gA, 0, none⟩) m4 cA, .slice (some ⟨gB, 0, none⟩) m4 cB, .slice (some ⟨gU, 0, none⟩) m4 cU, .slice (some ⟨gV, 0, none⟩) m4 cV] [F, F, F, F] ∧ Kx w6 w.heap.size [.slice (some ⟨gA, 0, none⟩) m4 cA, .slice (some ⟨gB, 0, none⟩) m4 cB, .slice (some ⟨gU, 0, none⟩) m4 cU, .slice (some ⟨gV, 0, none⟩) m4 cV] [.slice a4 m4 c4] [F]) :=
      ⟨K5.out.1.snoc (x := F) b6 (by rw [← HNF.out]; exact oV) B5.size, K5.out.2.snocV b6 oV⟩
    clear oV
    have R6 : Hid (∀ wx, wx = w6 → Rd wx (.slice (some ⟨gU, 0, none⟩) m4 cU) F ∧ Rd wx (.slice (some ⟨gV, 0, none⟩) m4 cV) F ∧ Rd wx (.slice a4 m4 c4) F) := by
      have h : ∀ wx, wx = w6 → Rd wx (.slice (some ⟨gU, 0, none⟩) m4 cU) F ∧ Rd wx (.slice (some ⟨gV, 0, none⟩) m4 cV) F ∧ Rd wx (.slice a4 m4 c4) F := fun wx e => by
        subst e
        have l := HNF.out
        exact ⟨(K6.out.1.own 2 _ F rfl rfl).rd HBy.out (by omega), (K6.out.1.own 3 _ F rfl rfl).rd HBy.out (by omega), (K6.out.2.own 0 _ F rfl rfl).rd HBy.out (by omega)⟩
      exact h
    clear K4 K5 S2 S3 RA3 RB3 RA5 OA O4
    go_wp2_with (first | (go_at_call 14; refine Calls.mono (HN.out _ _) ?_; rintro en2 wn2 ⟨rfl, rfl⟩) | (go_at_call_of 18 (Value.slice (some ⟨gU, 0, none⟩) m4 cU); refine Calls.mono (alike_any (R6.out _ rfl).1 (R6.out _ rfl).2.2) ?_; rintro ea wa ⟨rfl, rfl⟩; rw [show decide (F = F) = true by simp]) | (go_at_call_of 18 (Value.slice (some ⟨gV, 0, none⟩) m4 cV); refine Calls.mono (alike_any (R6.out _ rfl).2.1 (R6.out _ rfl).2.2) ?_; rintro eb wb ⟨rfl, rfl⟩; rw [show decide (F = F) = true by simp]))
    obtain ⟨W, hW⟩ : ∃ W, W = wb.alloc (.cells #[.slice (some ⟨gA, 0, none⟩) m4 cA, .slice (some ⟨gB, 0, none⟩) m4 cB, .slice (some ⟨gU, 0, none⟩) m4 cU, .slice (some ⟨gV, 0, none⟩) m4 cV] 24) := ⟨_, rfl⟩
    rw [← hW]
    obtain ⟨ls, hls⟩ : ∃ ls : List Value, ls = [.slice (some ⟨gA, 0, none⟩) m4 cA, .slice (some ⟨gB, 0, none⟩) m4 cB, .slice (some ⟨gU, 0, none⟩) m4 cU, .slice (some ⟨gV, 0, none⟩) m4 cV] := ⟨_, rfl⟩
    obtain ⟨C0, hC0⟩ : ∃ C0 : List (List Nat), C0 = [F, F, F, F] := ⟨_, rfl⟩
    obtain ⟨gL, hgL⟩ : ∃ gL, gL = wb.heap.size := ⟨_, rfl⟩
    rw [← hgL]
    have OW : Hid (Ow w W w.heap.size 4 4 (some ⟨gL, 0, none⟩) ls [.slice a4 m4 c4] C0 [F]) := by
      rw [hW, hls, hC0, hgL]
      exact ow_lit B6 B6.size K6.out.1 K6.out.2 rfl (by decide)
    have HC0 : Hid (∀ (j : Nat) (x : List Nat), C0[j]? = some x → x.length = m4) := by
      have h : ∀ (j : Nat) (x : List Nat), C0[j]? = some x → x.length = m4 := by
        intro j x h
        rw [hC0] at h
        have := List.mem_of_getElem? h
        simp at this
        rw [this]; exact HNF.out.symm
      exact h
    have hC4 : Hid (C0.length = 4) := by rw [hC0]; exact rfl
    clear K6 R6 hW hls hC0 hgL
    go_loopw [16, 17] (fun i _ wr => ∃ (t : Nat) (C : List (List Nat)), t ≤ 4 ∧ i = .int .i64 ((t : Nat) : Int) ∧ Ow w wr w.heap.size 4 4 (some ⟨gL, 0, none⟩) ls [.slice a4 m4 c4] C [F] ∧ Fi C0 C t 0) (fun i _ _ => 4 - (intOf i).toNat)
    case atStart => exact ⟨0, C0, Nat.zero_le _, rfl, OW.out, Fi.start C0⟩
    case round =>
      obtain ⟨t, C, ht4, rfl, hO, hF⟩ := hrel
      have HO : Hid (Ow w wr w.heap.size 4 4 (some ⟨gL, 0, none⟩) ls [.slice a4 m4 c4] C [F] ∧ Fi C0 C t 0) := ⟨hO, hF⟩
      clear hO hF OW
      by_cases hlt : t < 4
      · have hlt2 : (t : Int) < 4 := by omega
        obtain ⟨gL', a, x, c, e0, hls, hCx, hcl, hown⟩ := HO.out.1.item hlt
        cases e0
        obtain ⟨n0, hn0⟩ : ∃ n0, n0 = x.length := ⟨_, rfl⟩
        rw [← hn0] at hls hcl
        have HL : Hid (ls[t]? = some (.slice a n0 c)) := hls
        have hn3 : n0 ≤ 3000000 := by
          obtain ⟨x0, hx0⟩ : ∃ x0, C0[t]? = some x0 := ⟨C0[t]'(by rw [hC4.out]; exact hlt), List.getElem?_eq_getElem _⟩
          have := (HO.out.2.2 t x0 x hx0 hCx).1
          have := HC0.out t x0 hx0
          omega
        have hwt : IntKind.u8.wrap (IntKind.i64.wrap (11 + (t : Int))) = ((11 + t : Nat) : Int) := by
          rw [IntWalk.i64_in _ ⟨by omega, by omega⟩]
          rw [show (11 + (t : Int)) = ((11 + t : Nat) : Int) by omega]
          rw [IntWalk.u8_in _ ⟨by omega, by omega⟩]
        clear hls hown hCx hcl hn0
        go_wp2
        go_loopw [17] (fun k wr => ∃ (q : Nat) (C : List (List Nat)), q ≤ n0 ∧ k = .int .i64 ((q : Nat) : Int) ∧ Ow w wr w.heap.size 4 4 (some ⟨gL, 0, none⟩) ls [.slice a4 m4 c4] C [F] ∧ Fi C0 C t q) (fun k _ => n0 - (intOf k).toNat)
        case atStart => exact ⟨0, C, Nat.zero_le _, rfl, HO.out.1, HO.out.2⟩
        case round =>
          obtain ⟨q, C, hq, rfl, hO, hF⟩ := hrel
          have HO : Hid (Ow w wr w.heap.size 4 4 (some ⟨gL, 0, none⟩) ls [.slice a4 m4 c4] C [F] ∧ Fi C0 C t q) := ⟨hO, hF⟩
          obtain ⟨gL', x, e0, hCx, hxl, hcl, hown, _⟩ := hO.at HL.out
          cases e0
          have HX : Hid (C[t]? = some x ∧ x.length = n0) := ⟨hCx, hxl⟩
          clear hO hF hCx
          by_cases hql : q < n0
          · have hql2 : (q : Int) < (n0 : Int) := by omega
            rcases ownNonil hown with ⟨_, h0, _⟩ | ⟨g, rfl⟩
            · omega
            have hcg := ownCell hown hql
            have hfz := hown.2.frozenAt q
            obtain ⟨yv, hyv⟩ : ∃ yv, yv = x.getD q 0 := ⟨_, rfl⟩
            rw [← hyv] at hcg
            clear hown hxl hyv
            go_wp2
            go_roundw
            case rel => exact ⟨q + 1, C.set t (x.set q (11 + t)), by omega, by go_num, HO.out.1.store HL.out HX.out.1 _, HO.out.2.step HX.out.1 (by rw [HX.out.2]; exact hql)⟩
            case measure => simp [intOf]; omega
          · obtain rfl : q = n0 := by omega
            have hge : ¬ ((q : Int) < (q : Int)) := by omega
            clear hown hxl
            go_wp2
            go_roundw
            case rel => exact ⟨t + 1, C, by omega, by go_num, HO.out.1, HO.out.2.next HX.out.1 HX.out.2.symm⟩
            case measure => simp [intOf]; omega
      · obtain rfl : t = 4 := by omega
        have hge : ¬ (((4 : Nat) : Int) < 4) := by omega
        have OF : Hid (Ow w wr w.heap.size 4 4 (some ⟨gL, 0, none⟩) ls [.slice a4 m4 c4] (fullL C0) [F]) := by
          have := HO.out.1
          rwa [HO.out.2.full (by rw [hC4.out]; exact Nat.le_refl _)] at this
        clear HO
        go_wp2
        go_loopw [18, 19] (fun m i wr => ∃ (t : Nat) (am : Option Addr) (cm : Nat) (ms : List Value), t ≤ 4 ∧ i = .int .i64 ((t : Nat) : Int) ∧ m = .slice am t cm ∧ Gw w wr w.heap.size 4 4 t cm (some ⟨gL, 0, none⟩) am ls ms [.slice a4 m4 c4] (fullL C0) [F]) (fun _ i _ => 4 - (intOf i).toNat)
        case atStart => exact ⟨0, none, 0, [], Nat.zero_le _, rfl, rfl, Gw.start OF.out⟩
        case round =>
          obtain ⟨t, am, cm, ms, ht4, rfl, rfl, hG⟩ := hrel
          have HG : Hid (Gw w wr w.heap.size 4 4 t cm (some ⟨gL, 0, none⟩) am ls ms [.slice a4 m4 c4] (fullL C0) [F]) := hG
          clear hG OF
          by_cases hlt : t < 4
          · have hlt2 : (t : Int) < 4 := by omega
            obtain ⟨gL', a, x, c, e0, hls, hCx, hcl, hown⟩ := HG.out.ow.item hlt
            cases e0
            obtain ⟨n0, hn0⟩ : ∃ n0, n0 = x.length := ⟨_, rfl⟩
            rw [← hn0] at hls hcl hown
            have hn3 : n0 ≤ 3000000 := by
              obtain ⟨x0, hx0, rfl⟩ := fullL_get hCx
              have := HC0.out t x0 hx0
              simp at hn0
              omega
            have hmk2 : 11 + t < 256 := by omega
            have HX : Hid (ls[t]? = some (.slice a n0 c) ∧ (fullL C0)[t]? = some x ∧ n0 = x.length ∧ Own wr w.heap.size (.slice a n0 c) n0 x) := ⟨hls, hCx, hn0, hown⟩
            have hBr := HG.out.hB
            clear hls hown hCx hn0
            go_wp2_with (first | (go_at_call 21; refine Calls.mono (grown_any (m := 11 + t) HX.out.2.2.2 hBr hn3 hmk2) ?_; rintro eg wg ⟨a5, c5, rfl, og1, og2, og3, og4⟩; have GG : Hid (w.heap.size ≤ wg.heap.size ∧ wg.ownsRow w.heap.size 24 1 (.slice am t cm) t ms ∧ ∀ (a2 : Option Addr) (c2 : Nat) (w2 : World), w2.ownsRow w.heap.size 24 1 (.slice a2 (t + 1) c2) (t + 1) (ms ++ [.slice a5 (n0 + (n0 + 70)) c5]) → wg.grownBy w2 (Value.slice am t cm).ownBlock → (∀ g, (Value.slice a2 (t + 1) c2).ownBlock = some g → (Value.slice am t cm).ownBlock = some g ∨ wg.heap.size < g) → Gw w w2 w.heap.size 4 4 (t + 1) c2 (some ⟨gL, 0, none⟩) a2 ls (ms ++ [.slice a5 (n0 + (n0 + 70)) c5]) [.slice a4 m4 c4] (fullL C0) [F]) := HG.out.grow HX.out.1 HX.out.2.1 (by rw [← HX.out.2.2.1]; exact og1) (by rw [← HX.out.2.2.1]; exact og2) og3 og4; clear og1 og2 og3 og4) | (at_builtin; refine wpList_append_part rfl _ _ rfl w.heap.size _ _ _ ms rfl GG.out.2.1 _ rfl rfl (by omega) GG.out.1 ?_; intro a6 c6 w6 hr6 hg6 hl6; have G6 : Hid (Gw w w6 w.heap.size 4 4 (t + 1) c6 (some ⟨gL, 0, none⟩) a6 ls (ms ++ [.slice a5 (n0 + (n0 + 70)) c5]) [.slice a4 m4 c4] (fullL C0) [F]) := GG.out.2.2 _ _ _ hr6 hg6 hl6; clear hr6 hg6 hl6))
            go_roundw
            case rel => exact ⟨t + 1, a6, c6, _, by omega, by go_num, rfl, G6.out⟩
            case measure => simp [intOf]; omega
          · obtain rfl : t = 4 := by omega
            have hge : ¬ (((4 : Nat) : Int) < 4) := by omega
            go_wp2
            obtain ⟨WC, hWC⟩ : ∃ WC, WC = wr := ⟨_, rfl⟩
            have HG2 : Hid (Gw w WC w.heap.size 4 4 4 cm (some ⟨gL, 0, none⟩) am ls ms [.slice a4 m4 c4] (fullL C0) [F]) := by rw [hWC]; exact HG.out
            rw [← hWC]
            clear HG hWC
            go_loopw [20, 21] (fun i _ wr => ∃ t : Nat, t ≤ 4 ∧ i = .int .i64 ((t : Nat) : Int) ∧ wr = WC) (fun i _ _ => 4 - (intOf i).toNat)
            case atStart => exact ⟨0, Nat.zero_le _, rfl, rfl⟩
            case round =>
              obtain ⟨t, ht4, rfl, rfl⟩ := hrel
              by_cases hlt : t < 4
              · have hlt2 : (t : Int) < 4 := by omega
                obtain ⟨gL', a, x, c, e0, _, hCx, hcl, hown⟩ := HG2.out.ow.item hlt
                cases e0
                obtain ⟨gM, a7, c7, rfl, hcm, hown7⟩ := HG2.out.at hlt hCx
                obtain ⟨x0, hx0, rfl⟩ := fullL_get hCx
                obtain ⟨n0, hn0⟩ : ∃ n0, n0 = (List.replicate x0.length (11 + t)).length := ⟨_, rfl⟩
                have hn3 : n0 ≤ 3000000 := by
                  have := HC0.out t x0 hx0
                  simp at hn0
                  omega
                rw [← hn0] at hown hown7 hcl hcm
                have hn1 : x0.length = n0 := by simpa using hn0.symm
                rw [hn1] at hown hown7
                have HCE : Hid (∀ q g, q < n0 → a = some ⟨g, 0, none⟩ → wr.cell? ⟨g, q, none⟩ = some (.int .u8 (11 + (t : Int)))) := by
                  have h : ∀ q g, q < n0 → a = some ⟨g, 0, none⟩ → wr.cell? ⟨g, q, none⟩ = some (.int .u8 (11 + (t : Int))) := by
                    rintro q g hq rfl
                    have := ownCell hown hq
                    rw [rep_get1 _ _ _ hq] at this
                    rw [this]; rfl
                  exact h
                have HCM : Hid (∀ q, q < n0 + (n0 + 70) → ∃ g, a7 = some ⟨g, 0, none⟩ ∧ wr.cell? ⟨g, q, none⟩ = some (.int .u8 (11 + (t : Int)))) := by
                  have h : ∀ q, q < n0 + (n0 + 70) → ∃ g, a7 = some ⟨g, 0, none⟩ ∧ wr.cell? ⟨g, q, none⟩ = some (.int .u8 (11 + (t : Int))) := by
                    intro q hq
                    rcases ownNonil hown7 with ⟨_, h0, _⟩ | ⟨g, rfl⟩
                    · omega
                    · refine ⟨g, rfl, ?_⟩
                      have := ownCell hown7 hq
                      rw [rep_get _ _ _ _ hq] at this
                      rw [this]; rfl
                  exact h
                have HNA : Hid (0 < n0 → ∃ g, a = some ⟨g, 0, none⟩) := by
                  have h : 0 < n0 → ∃ g, a = some ⟨g, 0, none⟩ := fun h => by
                    rcases ownNonil hown with ⟨_, h0, _⟩ | ⟨g, rfl⟩
                    · omega
                    · exact ⟨g, rfl⟩
                  exact h
                clear hown hown7 hn0 hn1 hCx hx0
                obtain ⟨NM, hNM⟩ : ∃ NM, NM = n0 + (n0 + 70) := ⟨_, rfl⟩
                rw [← hNM] at hcm HCM
                go_wp2
                go_loopw [21] (fun k wr' => ∃ q : Nat, q ≤ NM ∧ k = .int .i64 ((q : Nat) : Int) ∧ wr' = wr) (fun k _ => NM - (intOf k).toNat)
                case atStart => exact ⟨0, Nat.zero_le _, rfl, rfl⟩
                case round =>
                  obtain ⟨q, hq, rfl, rfl⟩ := hrel
                  by_cases hql : q < NM
                  · have hql2 : (q : Int) < (NM : Int) := by omega
                    obtain ⟨g7, rfl, hc7⟩ := HCM.out q hql
                    by_cases hqn : q < n0
                    · have hqn2 : (q : Int) < (n0 : Int) := by omega
                      obtain ⟨g8, rfl⟩ := HNA.out (by omega)
                      have hc8 := HCE.out q g8 hqn rfl
                      go_wp2
                      go_roundw
                      case rel => exact ⟨q + 1, by omega, by go_num, by trivial⟩
                      case measure => simp [intOf]; omega
                    · have hqn2 : ¬ ((q : Int) < (n0 : Int)) := by omega
                      go_wp2
                      go_roundw
                      case rel => exact ⟨q + 1, by omega, by go_num, by trivial⟩
                      case measure => simp [intOf]; omega
                  · obtain rfl : q = NM := by omega
                    have hge2 : ¬ ((q : Int) < (q : Int)) := by omega
                    go_wp2
                    go_roundw
                    case rel => exact ⟨t + 1, by omega, by go_num, by trivial⟩
                    case measure => simp [intOf]; omega
              · obtain rfl : t = 4 := by omega
                have hge2 : ¬ (((4 : Nat) : Int) < 4) := by omega
                have bC := HG2.out.bel
                go_wp2_with (first | (go_at_call 13; refine Calls.mono (HB.out _ bC) ?_; rintro e8 w8 ⟨g8, c8, rfl, o8, b8⟩; have R8 : Hid (Rd w8 (.slice (some ⟨g8, 0, none⟩) m4 c8) F ∧ Rd w8 (.slice a4 m4 c4) F) := ⟨o8.rd HBy.out (by omega), ((HG2.out.kx.own 0 _ F rfl rfl).later b8).rd HBy.out (by rw [← HNF.out]; omega)⟩; clear o8) | (go_at_call 14; refine Calls.mono (HN.out _ _) ?_; rintro en3 wn3 ⟨rfl, rfl⟩) | (go_at_call 18; refine Calls.mono (alike_any R8.out.1 R8.out.2) ?_; rintro ea3 wa3 ⟨rfl, rfl⟩; rw [show decide (F = F) = true by simp]) | (go_at_call 12; refine Calls.mono (HS.out _) ?_; rintro e9 w9 ⟨rfl, b9⟩))
                go_ret
                exact ⟨rfl, bC.trans ((b8.trans (b9.mono b8.size)).mono bC.size)⟩
  · have HB : Hid (∀ wx : World, Below w.heap.size w wx → Calls Try.prog 13 #[.int .i64 b, .slice a1 ks.length c1] wx fun e w' => ∃ a m c, e = .returned (.tuple #[.slice a m c, .int .i64 ((bldE b ks.length : Nat) : Int)]) ∧ Below wx.heap.size wx w') := by
      have h : ∀ wx : World, Below w.heap.size w wx → Calls Try.prog 13 #[.int .i64 b, .slice a1 ks.length c1] wx fun e w' => ∃ a m c, e = .returned (.tuple #[.slice a m c, .int .i64 ((bldE b ks.length : Nat) : Int)]) ∧ Below wx.heap.size wx w' := fun wx hx => (build_any b (H1.out.later hx)).mono fun e w' ⟨a, m, c, h1, _, h3⟩ => ⟨a, m, c, h1, h3⟩
      exact h
    obtain ⟨E, hE2⟩ : ∃ E, E = bldE b ks.length := ⟨_, rfl⟩
    obtain ⟨nk, hnk⟩ : ∃ nk, nk = ks.length := ⟨_, rfl⟩
    rw [← hE2] at HB hE
    rw [← hnk] at HB ⊢
    have hE3 : ((E : Int) != 0) = true := by rw [bne_iff_ne]; omega
    have hE4 : ¬ ((E : Int) = 0) := by omega
    clear hE2 hnk H1
    go_enter Try.func6, Try.ntmps6
    go_wp2_with (first | (go_at_call 12; refine Calls.mono (HS.out _) ?_; rintro e1 w1 ⟨rfl, b1⟩) | (have X := b2; go_at_call 13; refine Calls.mono (HB.out _ (b1.trans (b2.mono b1.size))) ?_; rintro e3 w3 ⟨a3, m3, c3, rfl, b3⟩) | (go_at_call 13; refine Calls.mono (HB.out _ b1) ?_; rintro e2 w2 ⟨a2, m2, c2, rfl, b2⟩) | (go_at_call 14; refine Calls.mono (HN.out _ _) ?_; rintro en wn ⟨rfl, rfl⟩))
    go_ret
    exact ⟨by simp, b1.trans ((b2.trans (b3.mono b2.size)).mono b1.size)⟩
end Go.Proofs.Ytieehdhinponcaa

namespace Go.Proofs.Ytieehdhinponcaa
open Go.ChangeShapes Go.WideShapes Go.ChangeAt Go.RowKit
set_option linter.unusedVariables false

theorem own_knob : ownKnob Try.prog.godebug = none := by kernel_rfl
theorem laid_out : laidOutB Try.prog = true := by kernel_rfl
theorem und_int : Try.prog.underlying 3 = some (.int .i64) := by kernel_rfl
theorem und_u64 : Try.prog.underlying 85 = some (.int .u64) := by kernel_rfl
theorem und_bool : Try.prog.underlying 4 = some .bool := by kernel_rfl
theorem cells_byte : Try.prog.cellsOf 5 = 1 := by kernel_rfl
theorem cells_bytes : Try.prog.cellsOf 24 = 1 := by kernel_rfl

theorem bulk_pos {H : Type} (d : DataW H) : 1 ≤ Rows.uptoBulk d := by
  cases d with
  | lit l => cases l <;> simp [Rows.uptoBulk]
  | nil => simp [Rows.uptoBulk]
  | ptr d => simp [Rows.uptoBulk]
  | slice elems spare => simp [Rows.uptoBulk]
  | agg parts => simp [Rows.uptoBulk]
  | iface t d => simp [Rows.uptoBulk]
  | map entries => simp [Rows.uptoBulk]
  | held h => simp [Rows.uptoBulk]
theorem bulk_len {H : Type} (l : List (DataW H)) : l.length ≤ Rows.uptoBulkAll l := by
  induction l with
  | nil => simp [Rows.uptoBulkAll]
  | cons x r ih => have := bulk_pos x; simp only [Rows.uptoBulkAll, List.length_cons]; omega

/-- A slice of bytes that came in. -/
theorem open_bytes {H : Type} {enc : TypeId × Value → H} {W : World} {v : Value} {d : DataW H} {p : List MemPlace} {base : Nat} {held : Bool} (h : DataW.Trod enc Try.prog W base (fun _ => true) held 24 v d p) (hs : ∃ a n c, v = .slice a n c) :
    ∃ bs : List Nat, (bs.length ≤ 281474976710656 → Rd W v bs) ∧ bs.length + 1 ≤ Rows.uptoBulk d ∧ (bs = [] ∨ ∃ elems spare, d = .slice elems spare ∧ elems.length = bs.length) := by
  obtain ⟨a, n, c, rfl⟩ := hs
  obtain ⟨fuel, hf⟩ := h
  rcases open_ints und_bytes und_byte cells_byte hf with ⟨hcs, hx⟩ | ⟨x, l, c', zs, hcs, _, hl, hm, hz, hx, hcell, hwz⟩
  · simp [Value.cells] at hcs
    obtain ⟨rfl, rfl, rfl⟩ := hcs
    refine ⟨[], fun _ => Rd.nil W, ?_, .inl rfl⟩
    have := bulk_pos d
    simpa using this
  · simp [Value.cells] at hcs
    obtain ⟨rfl, rfl, rfl⟩ := hcs
    simp only [if_true] at hz
    simp only [Prod.mk.injEq] at hx
    obtain ⟨rfl, _⟩ := hx
    have hby : ∀ i, i < zs.length → 0 ≤ zs.getD i 0 ∧ zs.getD i 0 < 256 := by
      intro i hi
      have hmem : zs.getD i 0 ∈ zs := by simp [List.getD, List.getElem?_eq_getElem hi]
      have := bounds_u8 (hwz _ hmem)
      omega
    refine ⟨(zs.take n).map Int.toNat, fun hlen => ⟨?_, some x, c, ?_, ?_, hm, hlen, ?_, ?_⟩, ?_, .inr ⟨_, _, rfl, by simp [lits]⟩⟩
    · intro y hy
      simp only [List.mem_map] at hy
      obtain ⟨z, hz1, rfl⟩ := hy
      have := bounds_u8 (hwz z (List.mem_of_mem_take hz1))
      omega
    · simp; omega
    · simp; omega
    · by_cases hc0 : c = 0
      · exact .inl hc0
      · right
        obtain ⟨b, off, spot⟩ := x
        have hc := hcell 0 (by omega)
        have hspot : spot = none := by simpa [Addr.add] using World.cell?_spot hc
        subst hspot
        exact ⟨b, off, rfl⟩
    · by_cases hn0 : n = 0
      · left; simp [hn0]
      · right
        obtain ⟨b, off, spot⟩ := x
        have hc := hcell 0 (by omega)
        have hspot : spot = none := by simpa [Addr.add] using World.cell?_spot hc
        subst hspot
        refine ⟨b, off, rfl, fun i hi => ?_⟩
        have hin : i < n := by simp at hi; omega
        have hc := hcell i (by omega)
        have e : (⟨b, off, none⟩ : Addr).add i = ⟨b, off + i, none⟩ := by unfold Addr.add; split <;> simp_all
        rw [e] at hc
        rw [hc]
        have hb := hby i (by omega)
        have e2 : ((zs.take n).map Int.toNat).getD i 0 = (zs.getD i 0).toNat := by
          simp [List.getElem?_take_of_lt hin, List.getElem?_eq_getElem (show i < zs.length by omega)]
        rw [e2, Int.toNat_of_nonneg hb.1]
    · have h1 := bulk_len (H := H) (lits .u8 (zs.take n))
      simp only [Rows.uptoBulk]
      simp [lits] at h1 ⊢
      omega

/-- What the reach gives of a slice of bytes. -/
theorem reach_bytes {H : Type} {ts : List TypeId} {ds gs : List (DataW H)} (h : (DataW.weightsEach Try.prog ts (ds ++ gs)).all (fun x => decide (x ≤ reachBytes)) = true) (j : Nat) (ht : ts[j]? = some 24) {d : DataW H} (hd : ds[j]? = some d) {bs : List Nat} (hx : bs = [] ∨ ∃ elems spare, d = .slice elems spare ∧ elems.length = bs.length) : bs.length ≤ 140737488351232 := by
  rcases hx with rfl | ⟨elems, spare, rfl, hl⟩
  · simp
  · have hd2 : (ds ++ gs)[j]? = some (.slice elems spare) := by
      rw [List.getElem?_append_left (List.getElem?_eq_some_iff.1 hd).1]
      exact hd
    have := sized_slice h ht hd2 und_bytes
    rw [show Try.prog.bytesOf 5 = 1 by kernel_rfl] at this
    unfold reachBytes at this
    omega

end Go.Proofs.Ytieehdhinponcaa

namespace Go.Proofs.Ytieehdhinponcaa
open Go.ChangeShapes Go.WideShapes Go.ChangeAt Go.RowKit
set_option linter.unusedVariables false

/-- The weights of one argument. -/
theorem weight_atP {H : Type} : ∀ {ts : List TypeId} {ds : List (DataW H)} (h : (DataW.weightsEach Try.prog ts ds).all (fun x => decide (x ≤ reachBytes)) = true) (j : Nat) {t : TypeId} {d : DataW H} (ht : ts[j]? = some t) (hd : ds[j]? = some d), (d.weights Try.prog t).all (fun x => decide (x ≤ reachBytes)) = true
  | [], _, _, j, _, _, ht, _ => by simp at ht
  | _ :: _, [], _, j, _, _, _, hd => by simp at hd
  | t :: ts, d :: ds, h, 0, _, _, ht, hd => by
    simp only [List.getElem?_cons_zero, Option.some.injEq] at ht hd
    subst ht hd
    simp only [DataW.weightsEach, List.all_append, Bool.and_eq_true] at h
    exact h.1
  | t :: ts, d :: ds, h, j + 1, _, _, ht, hd => by
    simp only [DataW.weightsEach, List.all_append, Bool.and_eq_true] at h
    exact weight_atP h.2 j (by simpa using ht) (by simpa using hd)
theorem weight_all {H : Type} {e : TypeId} : ∀ {ds : List (DataW H)} (h : (DataW.weightsAll Try.prog e ds).all (fun x => decide (x ≤ reachBytes)) = true) {d : DataW H} (hd : d ∈ ds), (d.weights Try.prog e).all (fun x => decide (x ≤ reachBytes)) = true
  | [], _, _, hd => by cases hd
  | x :: ds, h, d, hd => by
    simp only [DataW.weightsAll, List.all_append, Bool.and_eq_true] at h
    rcases List.mem_cons.1 hd with rfl | hd
    · exact h.1
    · exact weight_all h.2 hd

/-- A nil slice that came in has no room. -/
theorem parts_cap {H : Type} {enc : TypeId × Value → H} {W : World} {v : Value} {d : DataW H} {p : List MemPlace} {base : Nat} {held : Bool} (h : DataW.Trod enc Try.prog W base (fun _ => true) held 22 v d p) : ∀ n c, v = .slice none n c → c = 0 := by
  rintro n c rfl
  obtain ⟨fuel, hf⟩ := h
  rcases Deep.open_slice1 und_parts cells_bytes hf with ⟨hcs, _⟩ | ⟨x, l, c', m, k, V, D, Pl, hcs, _⟩
  · simp [Value.cells] at hcs
    exact hcs.2
  · simp [Value.cells] at hcs
/-- A slice that came in is no longer than its room. -/
theorem parts_cap2 {H : Type} {enc : TypeId × Value → H} {W : World} {v : Value} {d : DataW H} {p : List MemPlace} {base : Nat} {held : Bool} (h : DataW.Trod enc Try.prog W base (fun _ => true) held 22 v d p) : ∀ a n c, v = .slice a n c → n ≤ c ∧ c ≤ maxLen := by
  rintro a n c rfl
  obtain ⟨fuel, hf⟩ := h
  rcases Deep.open_slice1 und_parts cells_bytes hf with ⟨hcs, _⟩ | ⟨x, l, c', m, k, V, D, Pl, hcs, _, hl, hm, _⟩
  · simp [Value.cells] at hcs
    obtain ⟨rfl, rfl, rfl⟩ := hcs
    exact ⟨Nat.le_refl _, Nat.zero_le _⟩
  · simp [Value.cells] at hcs
    obtain ⟨rfl, rfl, rfl⟩ := hcs
    exact ⟨hl, hm⟩
/-- A slice of slices of bytes that came in, however long; with the bounds of its bytes. -/
theorem open_partsG {H : Type} {enc : TypeId × Value → H} {W : World} {v : Value} {d : DataW H} {p : List MemPlace} {base : Nat} {held : Bool} (h : DataW.Trod enc Try.prog W base (fun _ => true) held 22 v d p) (hs : ∃ a n c, v = .slice a n c)
    (hk : (d.weights Try.prog 22).all (fun x => decide (x ≤ reachBytes)) = true) : ∃ ps : List (List Nat), RdP W v ps ∧ (∀ i, (ps.getD i []).length ≤ 140737488351232) ∧ ps.length ≤ 5864062014634 := by
  obtain ⟨a, n, c, rfl⟩ := hs
  obtain ⟨fuel, hf⟩ := h
  rcases Deep.open_slice1 und_parts cells_bytes hf with ⟨hcs, hx⟩ | ⟨x, l, c', m, k, V, D, Pl, hcs, _, hl, hm, hmm, hx, hel⟩
  · simp [Value.cells] at hcs
    obtain ⟨rfl, rfl, rfl⟩ := hcs
    exact ⟨[], ⟨by simp, none, 0, rfl, .inl rfl⟩, fun i => by simp, by simp⟩
  · simp [Value.cells] at hcs
    obtain ⟨rfl, rfl, rfl⟩ := hcs
    simp only [if_true] at hmm
    simp only [Prod.mk.injEq] at hx
    obtain ⟨hx1, _⟩ := hx
    have hn : n ≤ 5864062014634 := by
      have hs2 : (DataW.weightsEach Try.prog [22] ([d] ++ [])).all (fun x => decide (x ≤ reachBytes)) = true := by simpa [DataW.weightsEach] using hk
      rw [hx1] at hs2
      have := sized_slice hs2 (j := 0) (t := 22) rfl rfl und_parts
      rw [show Try.prog.bytesOf 24 = 24 by kernel_rfl] at this
      simp at this
      unfold reachBytes at this
      omega
    have hw : ∀ j, j < n → ((D j).weights Try.prog 24).all (fun x => decide (x ≤ reachBytes)) = true := by
      intro j hj
      rw [hx1] at hk
      simp only [DataW.weights, und_parts, List.all_cons, List.all_append, Bool.and_eq_true] at hk
      exact weight_all hk.2.1 (by simp only [List.mem_map, List.mem_range]; exact ⟨j, hj, rfl⟩)
    have sum_le : ∀ j, j ≤ n → ∃ ps : List (List Nat), ps.length = j ∧ (∀ i, i < j → Rd W (V i) (ps.getD i [])) ∧ (∀ i, (ps.getD i []).length ≤ 140737488351232) := by
      intro j
      induction j with
      | zero => intro _; exact ⟨[], rfl, fun i hi => by omega, fun i => by simp⟩
      | succ j ih =>
        intro hj
        obtain ⟨ps, hpl, hrd, hll⟩ := ih (by omega)
        obtain ⟨hcell, htr⟩ := hel j (by omega)
        have hsl : ∃ a n c, V j = .slice a n c := by
          rcases DataW.trod_slice und_bytes htr with ⟨h0, _⟩ | ⟨a, len, cap, _, _, _, _, h0, _⟩
          · simp at h0; exact ⟨_, _, _, h0⟩
          · simp at h0; exact ⟨_, _, _, h0⟩
        have htr2 : DataW.Trod enc Try.prog W base (fun _ => true) held 24 (V j) (D j) (Pl j) := by
          obtain ⟨a, n, c, hv⟩ := hsl
          refine ⟨k, ?_⟩
          rw [hv] at htr ⊢
          simpa [Value.cells] using htr
        obtain ⟨bs, hbs, hbl, hfm⟩ := open_bytes htr2 hsl
        have hlen : bs.length ≤ 140737488351232 := by
          have hs2 : (DataW.weightsEach Try.prog [24] ([D j] ++ [])).all (fun x => decide (x ≤ reachBytes)) = true := by simpa [DataW.weightsEach] using hw j (by omega)
          have := reach_bytes hs2 0 rfl rfl hfm
          omega
        refine ⟨ps ++ [bs], by simp [hpl], ?_, ?_⟩
        rotate_left
        · intro i
          by_cases hij : i < j
          · have e : (ps ++ [bs]).getD i [] = ps.getD i [] := by simp [List.getD, List.getElem?_append_left (show i < ps.length by omega)]
            rw [e]
            exact hll i
          · by_cases hij2 : i = j
            · subst hij2
              have e : (ps ++ [bs]).getD i [] = bs := by simp [List.getD, hpl]
              rw [e]
              exact hlen
            · have e : (ps ++ [bs]).getD i [] = [] := by simp [List.getD, List.getElem?_eq_none (show (ps ++ [bs]).length ≤ i by simp; omega)]
              rw [e]
              simp
        intro i hi
        by_cases hij : i < j
        · have := hrd i hij
          have e : (ps ++ [bs]).getD i [] = ps.getD i [] := by simp [List.getD, List.getElem?_append_left (show i < ps.length by omega)]
          rw [e]
          exact this
        · have hij2 : i = j := by omega
          subst hij2
          have e : (ps ++ [bs]).getD i [] = bs := by simp [List.getD, hpl]
          rw [e]
          exact hbs (by omega)
    obtain ⟨ps, hpl, hrd, hll⟩ := sum_le n (Nat.le_refl _)
    refine ⟨ps, ⟨by omega, some x, c, by rw [hpl], ?_⟩, hll, by omega⟩
    by_cases hn0 : n = 0
    · left; exact List.eq_nil_of_length_eq_zero (by omega)
    · right
      obtain ⟨b, off, spot⟩ := x
      have hc := (hel 0 (by omega)).1
      have hspot : spot = none := by simpa [Addr.add] using World.cell?_spot hc
      subst hspot
      refine ⟨b, off, rfl, fun i hi => ⟨V i, ?_, hrd i (by omega)⟩⟩
      have hc := (hel i (by omega)).1
      have e : (⟨b, off, none⟩ : Addr).add i = ⟨b, off + i, none⟩ := by unfold Addr.add; split <;> simp_all
      rw [e] at hc
      exact hc
theorem open_partsF {H : Type} {enc : TypeId × Value → H} {W : World} {v : Value} {d : DataW H} {p : List MemPlace} {base : Nat} {held : Bool} (h : DataW.Trod enc Try.prog W base (fun _ => true) held 22 v d p) (hs : ∃ a n c, v = .slice a n c)
    (hk : (d.weights Try.prog 22).all (fun x => decide (x ≤ reachBytes)) = true) : ∃ ps : List (List Nat), RdP W v ps := let ⟨ps, h, _⟩ := open_partsG h hs hk; ⟨ps, h⟩

end Go.Proofs.Ytieehdhinponcaa
