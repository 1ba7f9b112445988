import Derived.Test.YtpabbnddeklpdaaGreatK03
namespace Go.Proofs.YtpabbnddeklpdaaGreat
open Go.RowKit
set_option linter.unusedVariables false
set_option linter.unusedSimpArgs false

set_option maxRecDepth 100000 in
set_option maxHeartbeats 8000000 in
theorem take_any {w : World} {g n c B : Nat} {a : Option Addr} {FO : Nat → Prop} {xs : List Nat} (hf : FuB w g FO) (ho : Own w B (.slice a n c) n xs) (hb : ∀ k, (Value.slice a n c).ownBlock = some k → ¬ FO k) (hn : n ≤ 200000) :
  Calls Tryz.prog 28 #[.pointer (some ⟨g, 0, none⟩), .slice a n c] w fun e w' => (∃ v, e = .returned v) ∧ FuB w' g (fun k => FO k ∨ (Value.slice a n c).ownBlock = some k ∨ (w.heap.size ≤ k ∧ k < w'.heap.size)) ∧ Fb w w' (fun k => FO k ∨ (Value.slice a n c).ownBlock = some k) := by
 have HFu := Lib.hid hf
 have HNb := Lib.hid hb
 have hgb : ∀ k, (Value.slice a n c).ownBlock = some k → k < w.heap.size := fun k hk => (ho.2.lt k hk).2
 obtain ⟨O, aL, nL, cL, aM, cM, N, vs, ms, h, f1, f2, f3, f4, f5⟩ := hf
 have hbg : ∀ k, (Value.slice a n c).ownBlock = some k → k ≠ g := fun k hk e => hb k hk (e ▸ f2)
 have HO : Hid (Own (w.setCell ⟨g, 2, none⟩ (.int .i64 ((N : Int) + 4 * (n : Int) + 200))) 0 (.slice a n c) n xs) := ⟨ho.1, row_same (ho.mono (Nat.zero_le B)).2 (fun k hk => Below.heap_setCell _ _ _ _ (hbg k hk))⟩
 have HF := Lib.hid h
 have HFs := Lib.hid (And.intro f1 (And.intro f2 (And.intro f3 (And.intro f4 f5))))
 obtain ⟨c0, c1, c2⟩ := h.cells
 have z0 := h.fz 0
 have z1 := h.fz 1
 have z2 := h.fz 2
 have hN4 := h.few
 have HGb := Lib.hid hgb
 have HBg := Lib.hid hbg
 have hgw : g < w.heap.size := (Array.getElem?_eq_some_iff.1 h.box).1
 clear h f1 f2 f3 f4 f5 hb ho hgb hbg
 by_cases hN1 : 16000000 < N
 ·have hNi : (16000000 : Int) < (N : Int) := by omega
  go_enter Tryz.func28, Tryz.ntmps28
  go_wp2
  refine bodyPost_ret (results_none rfl _ _ _) rfl ?_
  refine ⟨⟨_, rfl⟩, HFu.out.more (fun i hi => .inl hi) (fun i hi => ?_), Fb.refl _ _⟩
  rcases hi with hi | hi | hi
  ·exact HFu.out.lt i hi
  ·exact HGb.out i hi
  ·omega
 ·have hNi : ¬ (16000000 : Int) < (N : Int) := by omega
  have HF1 : Hid (Fb w (w.setCell ⟨g, 2, none⟩ (.int .i64 ((N : Int) + 4 * (n : Int) + 200))) (fun k => k = g ∨ (Value.slice a n c).ownBlock = some k)) := ⟨rfl, rfl, rfl, by simp, fun k _ hk => Below.heap_setCell _ _ _ _ (fun e => hk (.inl e))⟩
  have HBx : Hid ((w.setCell ⟨g, 2, none⟩ (.int .i64 ((N : Int) + 4 * (n : Int) + 200))).heap[g]? = some (.cells #[.slice aL nL cL, .slice aM nL cM, .int .i64 ((N : Int) + 4 * (n : Int) + 200)] 36 (0, 0))) := by
   unfold Hid
   have := HF.out.box
   simp [World.setCell, Array.getElem?_modify, this]
  go_enter Tryz.func28, Tryz.ntmps28
  go_wp2
  have hmk : ((nL : Int) / 4 % 200 + 20) = ((mkF nL : Nat) : Int) := by unfold mkF; omega
  rw [hmk]
  have hmk5 := mkF_lt nL
  obtain ⟨mk, hmkE⟩ : ∃ mk, mk = mkF nL := ⟨_, rfl⟩
  rw [← hmkE] at hmk5 ⊢
  have HMk := Lib.hid hmkE
  obtain ⟨w1, hw1⟩ : ∃ w1, w1 = w.setCell ⟨g, 2, none⟩ (.int .i64 ((N : Int) + 4 * (n : Int) + 200)) := ⟨_, rfl⟩
  rw [← hw1] at HO HF1 HBx ⊢
  clear hw1 hmk hmkE c0 c1 c2 z0 z1 z2
  go_loopw [5] (fun i wr => ∃ q : Nat, q ≤ n ∧ i = .int .i64 (q : Int) ∧ Hid (Own wr 0 (.slice a n c) n (List.replicate q mk ++ xs.drop q) ∧ w1.grownBy wr (Value.slice a n c).ownBlock)) (fun i _ => n - (intOf i).toNat)
  case atStart => exact ⟨0, by omega, rfl, by simpa using HO.out, World.grownBy.refl _ _⟩
  case round =>
   obtain ⟨q, hq, rfl, HR⟩ := hrel
   by_cases h1 : q < n
   ·have h1' : (q : Int) < (n : Int) := by omega
    have hq0 : (0 : Int) ≤ (q : Int) := by omega
    have own := HR.out.1
    obtain ⟨gi, rfl⟩ : ∃ gi, a = some ⟨gi, 0, none⟩ := by
     rcases own.2.2 with ⟨k1, k0⟩ | ⟨gi, cap, cur, k1, _⟩
     ·omega
     ·simp only [Value.slice.injEq] at k1
      exact ⟨gi, k1.1⟩
    have hfz := own.2.frozenAt q
    have hcell : ∃ y : Nat, wr.cell? ⟨gi, q, none⟩ = some (.int .u8 (y : Int)) := by
     refine ⟨(List.replicate q mk ++ xs.drop q).getD q 0, ?_⟩
     rw [own.2.cellAt q (by omega)]
     exact bv_at _ _ (by have := own.1; omega)
    obtain ⟨y, hcell⟩ := hcell
    have hxl : q < xs.length := by have := own.1; simp at this; omega
    clear own
    go_wp2
    go_roundw
    case rel =>
     have st := HR.out.1.2.stored q (.int .u8 (mk : Int))
     refine ⟨q + 1, by omega, by go_num, ⟨by have := HR.out.1.1; simp at this ⊢; omega, ?_⟩, grown_trans HR.out.2 st.2 (.inl rfl)⟩
     have e : (bv (List.replicate q mk ++ xs.drop q)).set q (.int .u8 (mk : Int)) = bv (List.replicate (q + 1) mk ++ xs.drop (q + 1)) := by
      have e2 : (List.replicate q mk ++ xs.drop q).set q mk = List.replicate (q + 1) mk ++ xs.drop (q + 1) := fill_set hxl
      rw [← e2]
      simp [bv, List.map_set]
     rw [← e]
     exact st.1
    case measure => simp [intOf]; omega
   ·have h1' : ¬ (q : Int) < (n : Int) := by omega
    obtain rfl : q = n := by omega
    obtain ⟨w2, rfl⟩ : ∃ w2, w2 = wr := ⟨_, rfl⟩
    have hx0 : xs.drop q = [] := List.drop_eq_nil_of_le (by have := HR.out.1.1; simp at this; omega)
    have HO2 : Hid (Own w2 0 (.slice a q c) q (List.replicate q mk)) := by have := HR.out.1; rw [hx0, List.append_nil] at this; exact this
    have HG2 := Lib.hid HR.out.2
    have own2 := HO2.out
    clear HR HO hx0
    go_wp2_with (at_builtin; refine wpList_append_mark rfl _ _ rfl 0 a q c mk _ rfl own2 [_] 1 rfl (by simp [bv]) (by decide) (by omega) (Nat.zero_le _) ?_; intro a3 m3 c3 w3 hm3 own3 gr3 ol3 nr3 kp3; refine Hid.out ?_)
    refine Lib.hid ?_
    rw [List.replicate_append_replicate] at own3
    have H3 : Hid (Own w3 0 (.slice a3 m3 c3) m3 (List.replicate (q + 1) mk) ∧ Own w3 0 (.slice a q c) q (List.replicate q mk) ∧ Near w2 (.slice a q c) (.slice a3 m3 c3) ∧ w2.grownBy w3 (Value.slice a q c).ownBlock) := ⟨own3, ol3, nr3, gr3⟩
    clear own3 ol3 nr3 gr3 kp3 own2
    go_wp2
    go_loopw [6, 7] (fun s i wz => ∃ (j : Nat) (a' : Option Addr) (m' c' : Nat), j ≤ 100 ∧ i = .int .i64 (j : Int) ∧ s = .slice a' m' c' ∧ Hid (m' = q + 1 + j) ∧ Hid (Own wz 0 (.slice a' m' c') m' (List.replicate (q + 1 + j) mk) ∧ Own wz 0 (.slice a q c) q (List.replicate q mk) ∧ Near w2 (.slice a q c) (.slice a' m' c') ∧ w2.grownBy wz (Value.slice a q c).ownBlock)) (fun _ i _ => 100 - (intOf i).toNat)
    case atStart => exact ⟨0, a3, m3, c3, by omega, rfl, rfl, hm3.out, H3.out⟩
    case round =>
     obtain ⟨j, a4, m4, c4, hj, rfl, rfl, hm4, H4⟩ := hrel
     have hm4b : m4 ≤ 200101 := by have := hm4.out; omega
     by_cases h2 : j < 100
     ·have h2' : (j : Int) < 100 := by omega
      have own4 := H4.out.1
      go_wp2_with (at_builtin; refine wpList_append_mark rfl _ _ rfl 0 a4 m4 c4 mk _ rfl own4 [_] 1 rfl (by simp [bv]) (by decide) (by omega) (Nat.zero_le _) ?_; intro a5 m5 c5 w5 hm5 own5 gr5 ol5 nr5 kp5; refine Hid.out ?_)
      refine Lib.hid ?_
      rw [List.replicate_append_replicate] at own5
      have H5 : Hid (Own w5 0 (.slice a5 m5 c5) m5 (List.replicate (q + 1 + (j + 1)) mk) ∧ Own w5 0 (.slice a q c) q (List.replicate q mk) ∧ Near w2 (.slice a q c) (.slice a5 m5 c5) ∧ w2.grownBy w5 (Value.slice a q c).ownBlock) := ⟨own5, own_keepF own4 ol5 gr5 kp5 H4.out.2.1, Near.on H4.out.2.2.1 nr5 H4.out.2.2.2.size, grown_trans H4.out.2.2.2 gr5 H4.out.2.2.1⟩
      have hm5' : Hid (m5 = q + 1 + (j + 1)) := by unfold Hid; have := hm5.out; have := hm4.out; omega
      clear own5 gr5 ol5 nr5 kp5 own4 hm5
      go_wp2
      go_roundw
      case rel => exact ⟨j + 1, a5, m5, c5, by omega, by go_num, rfl, hm5', H5.out⟩
      case measure => simp [intOf]; omega
     ·have h2' : ¬ (j : Int) < 100 := by omega
      obtain rfl : j = 100 := by omega
      go_wp2_with fail
      have FX : Fb w wr (fun k => k = g ∨ (Value.slice a q c).ownBlock = some k) := (HF1.out.grow HG2.out (fun i e _ => .inr e)).grow H4.out.2.2.2 (fun i e _ => .inr e)
      have bxX : wr.heap[g]? = some (.cells #[.slice aL nL cL, .slice aM nL cM, .int .i64 ((N : Int) + 4 * (q : Int) + 200)] 36 (0, 0)) := by
       rw [H4.out.2.2.2.block g (Nat.lt_of_lt_of_le (Array.getElem?_eq_some_iff.1 HBx.out).1 HG2.out.size) (fun e => HBg.out g e.symm rfl), HG2.out.block g (Array.getElem?_eq_some_iff.1 HBx.out).1 (fun e => HBg.out g e.symm rfl)]
       exact HBx.out
      have rowX : wr.ownsRow 0 34 1 (.slice aL nL cL) nL vs := row_same HF.out.row (fun k hk => FX.block k (HF.out.row.lt k hk).2 (by
       rintro (e | e)
       ·exact (HF.out.nL_ k hk).2 e
       ·exact HNb.out k e (HFs.out.2.2.2.1 k hk)))
      obtain rfl : m4 = q + 1 + 100 := hm4.out
      have BD : Below wr.heap.size wr wr.drew := (Below.refl _ _).drew
      have HZ : Hid (Own wr.drew 0 (.slice a q c) q (List.replicate q mk) ∧ Own wr.drew 0 (.slice a4 (q + 1 + 100) c4) (q + 1 + 100) (List.replicate (q + 1 + 100) mk) ∧ (wr.drew).ownsRow 0 34 1 (.slice aL nL cL) nL vs ∧ (wr.drew).heap[g]? = some (.cells #[.slice aL nL cL, .slice aM nL cM, .int .i64 ((N : Int) + 4 * (q : Int) + 200)] 36 (0, 0)) ∧ Fb wr wr.drew (fun k => (Value.slice a q c).ownBlock = some k)) := ⟨H4.out.2.1.later BD, H4.out.1.later BD, row_same rowX (fun k hk => BD.block k (rowX.lt k hk).2), bxX, Fb.of_below BD⟩
      have HFX := Lib.hid (And.intro FX (And.intro bxX rowX))
      have hnL8 : nL ≤ 400000 := by omega
      clear FX bxX rowX BD
      refine wp_mono (Q := fun e a' w' => match e with | .normal => ∃ (ax : Option Addr) (cx : Nat) (ay : Option Addr) (cy : Nat) (aR : Option Addr) (cR : Nat) (t64 t69 t72 : Value), a' = ({ tmps := #[.pointer (some ⟨g, 0, none⟩), .slice a q c, undef, undef, .int .u8 (mk : Int), .int .i64 (q : Int), .slice a4 (q + 1 + 100) c4, .int .i64 100, .pointer (some ⟨g, 0, none⟩), .pointer (some ⟨g, 0, none⟩), .pointer (some ⟨g, 2, none⟩), .int .i64 (N : Int), .bool false, .pointer (some ⟨g, 0, none⟩), .pointer (some ⟨g, 0, none⟩), .pointer (some ⟨g, 0, none⟩), .pointer (some ⟨g, 2, none⟩), .int .i64 (N : Int), .slice a q c, .int .i64 (q : Int), .int .i64 (4 * (q : Int)), .int .i64 ((N : Int) + 4 * (q : Int)), .int .i64 ((N : Int) + 4 * (q : Int) + 200), .pointer (some ⟨g, 0, none⟩), .pointer (some ⟨g, 2, none⟩), .pointer (some ⟨g, 0, none⟩), .pointer (some ⟨g, 0, none⟩), .pointer (some ⟨g, 0, none⟩), .slice aL nL cL, .int .i64 (nL : Int), .int .i64 ((nL : Int) / 4), .int .i64 ((nL : Int) / 4 % 200), .int .i64 (mk : Int), .int .u8 (mk : Int), .int .i64 (q : Int), .slice a q c, .int .i64 (q : Int), .bool false, u38, u39, u40, u41, u42, u43, .slice a q c, .int .u8 (mk : Int), .slice (some ⟨w2.heap.size, 0, none⟩) 1 1, .slice a3 m3 c3, .int .i64 100, .bool false, u50, u51, u52, u53, u54, u55, .pointer (some ⟨g, 0, none⟩), .pointer (some ⟨g, 0, none⟩), .pointer (some ⟨g, 0, none⟩), .pointer (some ⟨g, 0, none⟩), .slice aL nL cL, .slice a q c, .slice a q c, .int .u8 (mk : Int), t64, .slice ax (q + 1) cx, .slice a q c, .int .u8 (mk : Int), .int .u8 (mk : Int), t69, .slice ay (q + 2) cy, .slice a4 (q + 1 + 100) c4, t72, .slice aR (nL + 4) cR, .pointer (some ⟨g, 0, none⟩), .pointer (some ⟨g, 0, none⟩), undef, undef, undef, undef, undef, undef, undef, undef, undef, undef, undef, undef, undef], defers := [] } : Act) ∧ Hid (Own w' 0 (.slice ax (q + 1) cx) (q + 1) (List.replicate (q + 1) mk) ∧ Own w' 0 (.slice ay (q + 2) cy) (q + 2) (List.replicate (q + 2) mk) ∧ Own w' 0 (.slice a q c) q (List.replicate q mk) ∧ Own w' 0 (.slice a4 (q + 1 + 100) c4) (q + 1 + 100) (List.replicate (q + 1 + 100) mk) ∧ Near wr (.slice a q c) (.slice ax (q + 1) cx) ∧ Near wr (.slice a q c) (.slice ay (q + 2) cy) ∧ w'.ownsRow 0 34 1 (.slice aR (nL + 4) cR) (nL + 4) (vs ++ [.slice a q c, .slice ax (q + 1) cx, .slice ay (q + 2) cy, .slice a4 (q + 1 + 100) c4]) ∧ Near wr (.slice aL nL cL) (.slice aR (nL + 4) cR) ∧ w'.heap[g]? = some (.cells #[.slice aR (nL + 4) cR, .slice aM nL cM, .int .i64 ((N : Int) + 4 * (q : Int) + 200)] 36 (0, 0)) ∧ Fb wr w' (fun k => k = g ∨ (Value.slice a q c).ownBlock = some k ∨ (Value.slice aL nL cL).ownBlock = some k)) | _ => False) ?_ ?_
      ·refine wp_region_noPanic ?_
       refine wp_region_anyE (S := fun wx => wx.cell? ⟨g, 0, none⟩ = some (.slice aL nL cL)) (E := fun j => decide (j < 20)) (by kernel_rfl) ?_
       have hHeld := box_cellF HZ.out.2.2.2.1
       obtain ⟨Z0, hZ0⟩ : ∃ z, z = wr.drew := ⟨_, rfl⟩
       rw [← hZ0] at HZ hHeld ⊢
       clear hZ0
       refine AnyE.take (i := 0) (.pointer (some ⟨g, 0, none⟩)) rfl (by kernel_rfl) (by kernel_rfl) (by kernel_rfl) (by kernel_rfl) (fun _ _ _ h => h) (.inl ⟨by kernel_rfl, fun wy hy => by (go_simp; done)⟩) hHeld ?_
       try simp only [Act.put, List.setIfInBounds_toArray, List.set_cons_zero, List.set_cons_succ]
       refine AnyE.take (i := 1) (.pointer (some ⟨g, 0, none⟩)) rfl (by kernel_rfl) (by kernel_rfl) (by kernel_rfl) (by kernel_rfl) (fun _ _ _ h => h) (.inl ⟨by kernel_rfl, fun wy hy => by (go_simp; done)⟩) hHeld ?_
       try simp only [Act.put, List.setIfInBounds_toArray, List.set_cons_zero, List.set_cons_succ]
       refine AnyE.take (i := 2) (.pointer (some ⟨g, 0, none⟩)) rfl (by kernel_rfl) (by kernel_rfl) (by kernel_rfl) (by kernel_rfl) (fun _ _ _ h => h) (.inl ⟨by kernel_rfl, fun wy hy => by (go_simp; done)⟩) hHeld ?_
       try simp only [Act.put, List.setIfInBounds_toArray, List.set_cons_zero, List.set_cons_succ]
       refine AnyE.take (i := 3) (.pointer (some ⟨g, 0, none⟩)) rfl (by kernel_rfl) (by kernel_rfl) (by kernel_rfl) (by kernel_rfl) (fun _ _ _ h => h) (.inl ⟨by kernel_rfl, fun wy hy => by (go_simp; done)⟩) hHeld ?_
       try simp only [Act.put, List.setIfInBounds_toArray, List.set_cons_zero, List.set_cons_succ]
       refine AnyE.take (i := 4) (.slice aL nL cL) rfl (by kernel_rfl) (by kernel_rfl) (by kernel_rfl) (by kernel_rfl) (fun _ _ _ h => h) (.inl ⟨by kernel_rfl, fun wy hy => by (go_simp; done)⟩) hHeld ?_
       try simp only [Act.put, List.setIfInBounds_toArray, List.set_cons_zero, List.set_cons_succ]
       refine AnyE.take (i := 5) (.slice a q c) rfl (by kernel_rfl) (by kernel_rfl) (by kernel_rfl) (by kernel_rfl) (fun _ _ _ h => h) (.inl ⟨by kernel_rfl, fun wy hy => by (go_simp; done)⟩) hHeld ?_
       try simp only [Act.put, List.setIfInBounds_toArray, List.set_cons_zero, List.set_cons_succ]
       refine AnyE.take (i := 6) (.slice a q c) rfl (by kernel_rfl) (by kernel_rfl) (by kernel_rfl) (by kernel_rfl) (fun _ _ _ h => h) (.inl ⟨by kernel_rfl, fun wy hy => by (go_simp; done)⟩) hHeld ?_
       try simp only [Act.put, List.setIfInBounds_toArray, List.set_cons_zero, List.set_cons_succ]
       refine AnyE.take (i := 7) (.int .u8 (mk : Int)) rfl (by kernel_rfl) (by kernel_rfl) (by kernel_rfl) (by kernel_rfl) (fun _ _ _ h => h) (.inl ⟨by kernel_rfl, fun wy hy => by (go_simp; done)⟩) hHeld ?_
       try simp only [Act.put, List.setIfInBounds_toArray, List.set_cons_zero, List.set_cons_succ]
       refine AnyE.take (i := 10) (.slice a q c) rfl (by kernel_rfl) (by kernel_rfl) (by kernel_rfl) (by kernel_rfl) (fun _ _ _ h => h) (.inl ⟨by kernel_rfl, fun wy hy => by (go_simp; done)⟩) hHeld ?_
       try simp only [Act.put, List.setIfInBounds_toArray, List.set_cons_zero, List.set_cons_succ]
       refine AnyE.take (i := 11) (.int .u8 (mk : Int)) rfl (by kernel_rfl) (by kernel_rfl) (by kernel_rfl) (by kernel_rfl) (fun _ _ _ h => h) (.inl ⟨by kernel_rfl, fun wy hy => by (go_simp; done)⟩) hHeld ?_
       try simp only [Act.put, List.setIfInBounds_toArray, List.set_cons_zero, List.set_cons_succ]
       refine AnyE.take (i := 12) (.int .u8 (mk : Int)) rfl (by kernel_rfl) (by kernel_rfl) (by kernel_rfl) (by kernel_rfl) (fun _ _ _ h => h) (.inl ⟨by kernel_rfl, fun wy hy => by (go_simp; done)⟩) hHeld ?_
       try simp only [Act.put, List.setIfInBounds_toArray, List.set_cons_zero, List.set_cons_succ]
       refine AnyE.take (i := 15) (.slice a4 (q + 1 + 100) c4) rfl (by kernel_rfl) (by kernel_rfl) (by kernel_rfl) (by kernel_rfl) (fun _ _ _ h => h) (.inl ⟨by kernel_rfl, fun wy hy => by (go_simp; done)⟩) hHeld ?_
       try simp only [Act.put, List.setIfInBounds_toArray, List.set_cons_zero, List.set_cons_succ]
       refine AnyE.twoF (i := 8) (j := 13) rfl rfl (by kernel_rfl) (by kernel_rfl) (by kernel_rfl) (fun KK hK => ?_) (fun KK hK => ?_)
       ·go_simp
        have bA := (Below.refl (Z0).heap.size (Z0)).alloc (Nat.le_refl _) (.cells #[.int .u8 (mk : Int)] 5)
        have kA : (Z0.alloc (.cells #[.int .u8 (mk : Int)] 5)).heap[(Z0).heap.size]? = some (.cells #[.int .u8 (mk : Int)] 5 (0, 0)) := heap_alloc_new _ _
        obtain ⟨Z1, hZ1⟩ : ∃ z, z = Z0.alloc (.cells #[.int .u8 (mk : Int)] 5) := ⟨_, rfl⟩
        rw [← hZ1] at bA kA ⊢
        have HZ : Hid (Own Z1 0 (.slice a q c) q (List.replicate q mk) ∧ Own Z1 0 (.slice a4 (q + 1 + 100) c4) (q + 1 + 100) (List.replicate (q + 1 + 100) mk) ∧ (Z1).ownsRow 0 34 1 (.slice aL nL cL) nL vs ∧ (Z1).heap[g]? = some (.cells #[.slice aL nL cL, .slice aM nL cM, .int .i64 ((N : Int) + 4 * (q : Int) + 200)] 36 (0, 0)) ∧ Fb wr Z1 (fun k => (Value.slice a q c).ownBlock = some k)) := ⟨HZ.out.1.later bA, HZ.out.2.1.later bA, row_same HZ.out.2.2.1 (fun k hk => bA.block k (HZ.out.2.2.1.lt k hk).2), (bA.block g (Array.getElem?_eq_some_iff.1 HZ.out.2.2.2.1).1).trans HZ.out.2.2.2.1, HZ.out.2.2.2.2.trans (Fb.of_below bA)⟩
        have kX := kA
        clear hZ1
        refine hK.out _ _ ⟨fun _ => box_cellF HZ.out.2.2.2.1, ?_⟩
        have hHeld := box_cellF HZ.out.2.2.2.1
        clear hK
        try simp only [Act.put, List.setIfInBounds_toArray, List.set_cons_zero, List.set_cons_succ]
        clear kA bA
        refine AnyE.twoF (i := 9) (j := 13) rfl rfl (by kernel_rfl) (by kernel_rfl) (by kernel_rfl) (fun KK hK => ?_) (fun KK hK => ?_)
        ·refine wp_append_mk (mk := mk) (blk := Z0.heap.size) rfl rfl HZ.out.1 (fun j hj => one_mkF kX hj) (by decide) (by omega) (Nat.zero_le _) ?_
         intro ax cx Z2 o1 gr1 o2 nr1 kp1
         rw [List.replicate_append_replicate] at o1
         have nrX : Near wr (.slice a q c) (.slice ax (q + 1) cx) := nr1.imp id (fun h g hg => Nat.le_trans HZ.out.2.2.2.2.size (h g hg))
         have HZ1 : Hid (Own Z2 0 (.slice a q c) q (List.replicate q mk) ∧ Own Z2 0 (.slice a4 (q + 1 + 100) c4) (q + 1 + 100) (List.replicate (q + 1 + 100) mk) ∧ (Z2).ownsRow 0 34 1 (.slice aL nL cL) nL vs ∧ (Z2).heap[g]? = some (.cells #[.slice aL nL cL, .slice aM nL cM, .int .i64 ((N : Int) + 4 * (q : Int) + 200)] 36 (0, 0)) ∧ Fb wr Z2 (fun k => (Value.slice a q c).ownBlock = some k)) := ⟨o2, own_keepF HZ.out.1 o2 gr1 kp1 HZ.out.2.1, row_same HZ.out.2.2.1 (fun k hk => gr1.block k (HZ.out.2.2.1.lt k hk).2 (fun e => row_neF HZ.out.2.2.1 HZ.out.1 hk e.symm)), (gr1.block g (Array.getElem?_eq_some_iff.1 HZ.out.2.2.2.1).1 (fun e => HBg.out g e.symm rfl)).trans HZ.out.2.2.2.1, HZ.out.2.2.2.2.grow gr1 (fun i e _ => e)⟩
         have oX0 := o1
         have HZ := HZ1
         clear HZ1 gr1 o2 nr1 kp1
         refine hK.out _ _ ⟨fun _ => box_cellF HZ.out.2.2.2.1, ?_⟩
         have hHeld := box_cellF HZ.out.2.2.2.1
         clear hK
         try simp only [Act.put, List.setIfInBounds_toArray, List.set_cons_zero, List.set_cons_succ]
         have nX := nrX
         clear nrX o1 kX
         refine AnyE.one (i := 13) rfl (by kernel_rfl) (by kernel_rfl) (fun KK hK => ?_)
         go_simp
         have bA := (Below.refl (Z2).heap.size (Z2)).alloc (Nat.le_refl _) (.cells #[.int .u8 (mk : Int), .int .u8 (mk : Int)] 5)
         have kA : (Z2.alloc (.cells #[.int .u8 (mk : Int), .int .u8 (mk : Int)] 5)).heap[(Z2).heap.size]? = some (.cells #[.int .u8 (mk : Int), .int .u8 (mk : Int)] 5 (0, 0)) := heap_alloc_new _ _
         obtain ⟨ZC, hZC⟩ : ∃ z, z = Z2.alloc (.cells #[.int .u8 (mk : Int), .int .u8 (mk : Int)] 5) := ⟨_, rfl⟩
         rw [← hZC] at bA kA ⊢
         have HZ : Hid (Own ZC 0 (.slice a q c) q (List.replicate q mk) ∧ Own ZC 0 (.slice a4 (q + 1 + 100) c4) (q + 1 + 100) (List.replicate (q + 1 + 100) mk) ∧ (ZC).ownsRow 0 34 1 (.slice aL nL cL) nL vs ∧ (ZC).heap[g]? = some (.cells #[.slice aL nL cL, .slice aM nL cM, .int .i64 ((N : Int) + 4 * (q : Int) + 200)] 36 (0, 0)) ∧ Fb wr ZC (fun k => (Value.slice a q c).ownBlock = some k)) := ⟨HZ.out.1.later bA, HZ.out.2.1.later bA, row_same HZ.out.2.2.1 (fun k hk => bA.block k (HZ.out.2.2.1.lt k hk).2), (bA.block g (Array.getElem?_eq_some_iff.1 HZ.out.2.2.2.1).1).trans HZ.out.2.2.2.1, HZ.out.2.2.2.2.trans (Fb.of_below bA)⟩
         have oX := oX0.later bA
         have kY := two_ofF kA
         clear hZC
         refine hK.out _ _ ⟨fun _ => box_cellF HZ.out.2.2.2.1, ?_⟩
         have hHeld := box_cellF HZ.out.2.2.2.1
         clear hK
         try simp only [Act.put, List.setIfInBounds_toArray, List.set_cons_zero, List.set_cons_succ]
         clear oX0 bA kA
         obtain ⟨k2, hk2⟩ : ∃ k2, k2 = Z2.heap.size := ⟨_, rfl⟩
         rw [← hk2] at kY ⊢
         clear hk2
         refine AnyE.one (i := 14) rfl (by kernel_rfl) (by kernel_rfl) (fun KK hK => ?_)
         refine wp_append_mk (mk := mk) (blk := k2) rfl rfl HZ.out.1 (fun j hj => two_mkF kY hj) (by decide) (by omega) (Nat.zero_le _) ?_
         intro ay cy ZD o1 gr1 o2 nr1 kp1
         rw [List.replicate_append_replicate] at o1
         have nY : Near wr (.slice a q c) (.slice ay (q + 2) cy) := nr1.imp id (fun h g hg => Nat.le_trans HZ.out.2.2.2.2.size (h g hg))
         have oX1 := own_keepF HZ.out.1 o2 gr1 kp1 oX
         have HZ1 : Hid (Own ZD 0 (.slice a q c) q (List.replicate q mk) ∧ Own ZD 0 (.slice a4 (q + 1 + 100) c4) (q + 1 + 100) (List.replicate (q + 1 + 100) mk) ∧ (ZD).ownsRow 0 34 1 (.slice aL nL cL) nL vs ∧ (ZD).heap[g]? = some (.cells #[.slice aL nL cL, .slice aM nL cM, .int .i64 ((N : Int) + 4 * (q : Int) + 200)] 36 (0, 0)) ∧ Fb wr ZD (fun k => (Value.slice a q c).ownBlock = some k)) := ⟨o2, own_keepF HZ.out.1 o2 gr1 kp1 HZ.out.2.1, row_same HZ.out.2.2.1 (fun k hk => gr1.block k (HZ.out.2.2.1.lt k hk).2 (fun e => row_neF HZ.out.2.2.1 HZ.out.1 hk e.symm)), (gr1.block g (Array.getElem?_eq_some_iff.1 HZ.out.2.2.2.1).1 (fun e => HBg.out g e.symm rfl)).trans HZ.out.2.2.2.1, HZ.out.2.2.2.2.grow gr1 (fun i e _ => e)⟩
         have oY1 := o1
         have HZ := HZ1
         clear HZ1 gr1 o2 nr1 kp1 o1 oX kY
         refine hK.out _ _ ⟨fun _ => box_cellF HZ.out.2.2.2.1, ?_⟩
         have hHeld := box_cellF HZ.out.2.2.2.1
         clear hK
         try simp only [Act.put, List.setIfInBounds_toArray, List.set_cons_zero, List.set_cons_succ]
         refine AnyE.one (i := 16) rfl (by kernel_rfl) (by kernel_rfl) (fun KK hK => ?_)
         go_simp
         have bA := (Below.refl (ZD).heap.size (ZD)).alloc (Nat.le_refl _) (.cells #[.slice a q c, .slice ax (q + 1) cx, .slice ay (q + 2) cy, .slice a4 (q + 1 + 100) c4] 34)
         have kA : (ZD.alloc (.cells #[.slice a q c, .slice ax (q + 1) cx, .slice ay (q + 2) cy, .slice a4 (q + 1 + 100) c4] 34)).heap[(ZD).heap.size]? = some (.cells #[.slice a q c, .slice ax (q + 1) cx, .slice ay (q + 2) cy, .slice a4 (q + 1 + 100) c4] 34 (0, 0)) := heap_alloc_new _ _
         obtain ⟨ZE, hZE⟩ : ∃ z, z = ZD.alloc (.cells #[.slice a q c, .slice ax (q + 1) cx, .slice ay (q + 2) cy, .slice a4 (q + 1 + 100) c4] 34) := ⟨_, rfl⟩
         rw [← hZE] at bA kA ⊢
         have HZ : Hid (Own ZE 0 (.slice a q c) q (List.replicate q mk) ∧ Own ZE 0 (.slice a4 (q + 1 + 100) c4) (q + 1 + 100) (List.replicate (q + 1 + 100) mk) ∧ (ZE).ownsRow 0 34 1 (.slice aL nL cL) nL vs ∧ (ZE).heap[g]? = some (.cells #[.slice aL nL cL, .slice aM nL cM, .int .i64 ((N : Int) + 4 * (q : Int) + 200)] 36 (0, 0)) ∧ Fb wr ZE (fun k => (Value.slice a q c).ownBlock = some k)) := ⟨HZ.out.1.later bA, HZ.out.2.1.later bA, row_same HZ.out.2.2.1 (fun k hk => bA.block k (HZ.out.2.2.1.lt k hk).2), (bA.block g (Array.getElem?_eq_some_iff.1 HZ.out.2.2.2.1).1).trans HZ.out.2.2.2.1, HZ.out.2.2.2.2.trans (Fb.of_below bA)⟩
         have oX2 := oX1.later bA
         have oY2 := oY1.later bA
         clear hZE
         refine hK.out _ _ ⟨fun _ => box_cellF HZ.out.2.2.2.1, ?_⟩
         have hHeld := box_cellF HZ.out.2.2.2.1
         clear hK
         try simp only [Act.put, List.setIfInBounds_toArray, List.set_cons_zero, List.set_cons_succ]
         clear oX1 oY1 bA
         refine AnyE.one (i := 17) rfl (by kernel_rfl) (by kernel_rfl) (fun KK hK => ?_)
         refine wp_append_rowF (us := [.slice a q c, .slice ax (q + 1) cx, .slice ay (q + 2) cy, .slice a4 (q + 1 + 100) c4]) (blk := ZD.heap.size) (k := 4) rfl rfl HZ.out.2.2.1 rfl (fun j u hj => four_cellF kA hj) (by simp [Value.oneCell']) (by omega) (Nat.zero_le _) ?_
         intro aR cR ZF r1 gr1 nr1
         have oX3 := oX2.kept_rowF HZ.out.2.2.1 gr1
         have oY3 := oY2.kept_rowF HZ.out.2.2.1 gr1
         have oB3 := HZ.out.1.kept_rowF HZ.out.2.2.1 gr1
         have oG3 := HZ.out.2.1.kept_rowF HZ.out.2.2.1 gr1
         have nR : Near wr (.slice aL nL cL) (.slice aR (nL + 4) cR) := nr1.imp id (fun h g hg => Nat.le_trans HZ.out.2.2.2.2.size (h g hg))
         have bx3 := (gr1.block g (Array.getElem?_eq_some_iff.1 HZ.out.2.2.2.1).1 (fun e => (HF.out.nL_ g e.symm).2 rfl)).trans HZ.out.2.2.2.1
         have f3 : Fb wr ZF (fun k => (Value.slice a q c).ownBlock = some k ∨ (Value.slice aL nL cL).ownBlock = some k) := (HZ.out.2.2.2.2.mono (fun _ _ h => .inl h)).grow gr1 (fun i e _ => .inr e)
         have HE := Lib.hid (And.intro oX3 (And.intro oY3 (And.intro oB3 (And.intro oG3 (And.intro nX (And.intro nY (And.intro r1 (And.intro nR (And.intro bx3 f3)))))))))
         clear oX3 oY3 oB3 oG3 nX nY r1 nR f3 gr1 nr1 oX2 oY2 kA HZ
         refine hK.out _ _ ⟨fun _ => box_cellF bx3, ?_⟩
         have hHeld := box_cellF bx3
         clear hK
         try simp only [Act.put, List.setIfInBounds_toArray, List.set_cons_zero, List.set_cons_succ]
         have zf := box_fzF bx3 0
         clear bx3
         refine AnyE.one (i := 18) rfl (by kernel_rfl) (by kernel_rfl) (fun KK hK => ?_)
         go_simp
         refine hK.out _ _ ⟨fun _ => hHeld, ?_⟩
         clear hK
         try simp only [Act.put, List.setIfInBounds_toArray, List.set_cons_zero, List.set_cons_succ]
         refine AnyE.one (i := 19) rfl (by kernel_rfl) (by kernel_rfl) (fun KK hK => ?_)
         go_simp
         refine hK.out _ _ ⟨fun _ => hHeld, ?_⟩
         clear hK
         try simp only [Act.put, List.setIfInBounds_toArray, List.set_cons_zero, List.set_cons_succ]
         refine AnyE.one (i := 20) rfl (by kernel_rfl) (by kernel_rfl) (fun KK hK => ?_)
         go_simp
         refine hK.out _ _ ⟨fun h => (by cases h), ?_⟩
         clear hK
         refine AnyE.done (by kernel_rfl) (NoPanic.normal ?_) _
         obtain ⟨oX3, oY3, oB3, oG3, nX, nY, r1, nR, bx3, f3⟩ := HE.out
         exact ⟨ax, cx, ay, cy, aR, cR, _, _, _, rfl, oX3.setF (own_boxF oX3 bx3), oY3.setF (own_boxF oY3 bx3), oB3.setF (own_boxF oB3 bx3), oG3.setF (own_boxF oG3 bx3), nX, nY, row_same r1 (fun k hk => Below.heap_setCell _ _ _ _ (row_boxF r1 bx3 k hk)), nR, box_setF0 bx3 _, (f3.mono (fun _ _ h => .inr h)).trans (Fb.set1F (.inl rfl) _ _)⟩
        ·go_simp
         have bA := (Below.refl (Z1).heap.size (Z1)).alloc (Nat.le_refl _) (.cells #[.int .u8 (mk : Int), .int .u8 (mk : Int)] 5)
         have kA : (Z1.alloc (.cells #[.int .u8 (mk : Int), .int .u8 (mk : Int)] 5)).heap[(Z1).heap.size]? = some (.cells #[.int .u8 (mk : Int), .int .u8 (mk : Int)] 5 (0, 0)) := heap_alloc_new _ _
         obtain ⟨Z2, hZ2⟩ : ∃ z, z = Z1.alloc (.cells #[.int .u8 (mk : Int), .int .u8 (mk : Int)] 5) := ⟨_, rfl⟩
         rw [← hZ2] at bA kA ⊢
         have HZ : Hid (Own Z2 0 (.slice a q c) q (List.replicate q mk) ∧ Own Z2 0 (.slice a4 (q + 1 + 100) c4) (q + 1 + 100) (List.replicate (q + 1 + 100) mk) ∧ (Z2).ownsRow 0 34 1 (.slice aL nL cL) nL vs ∧ (Z2).heap[g]? = some (.cells #[.slice aL nL cL, .slice aM nL cM, .int .i64 ((N : Int) + 4 * (q : Int) + 200)] 36 (0, 0)) ∧ Fb wr Z2 (fun k => (Value.slice a q c).ownBlock = some k)) := ⟨HZ.out.1.later bA, HZ.out.2.1.later bA, row_same HZ.out.2.2.1 (fun k hk => bA.block k (HZ.out.2.2.1.lt k hk).2), (bA.block g (Array.getElem?_eq_some_iff.1 HZ.out.2.2.2.1).1).trans HZ.out.2.2.2.1, HZ.out.2.2.2.2.trans (Fb.of_below bA)⟩
         have kY0 := two_ofF kA
         have kX2 := keepF bA kX
         clear hZ2
         refine hK.out _ _ ⟨fun _ => box_cellF HZ.out.2.2.2.1, ?_⟩
         have hHeld := box_cellF HZ.out.2.2.2.1
         clear hK
         try simp only [Act.put, List.setIfInBounds_toArray, List.set_cons_zero, List.set_cons_succ]
         clear kA bA kX
         obtain ⟨k2, hk2⟩ : ∃ k2, k2 = Z1.heap.size := ⟨_, rfl⟩
         rw [← hk2] at kY0 ⊢
         clear hk2
         refine AnyE.one (i := 9) rfl (by kernel_rfl) (by kernel_rfl) (fun KK hK => ?_)
         refine wp_append_mk (mk := mk) (blk := Z0.heap.size) rfl rfl HZ.out.1 (fun j hj => one_mkF kX2 hj) (by decide) (by omega) (Nat.zero_le _) ?_
         intro ax cx ZC o1 gr1 o2 nr1 kp1
         rw [List.replicate_append_replicate] at o1
         have nrX : Near wr (.slice a q c) (.slice ax (q + 1) cx) := nr1.imp id (fun h g hg => Nat.le_trans HZ.out.2.2.2.2.size (h g hg))
         have HZ1 : Hid (Own ZC 0 (.slice a q c) q (List.replicate q mk) ∧ Own ZC 0 (.slice a4 (q + 1 + 100) c4) (q + 1 + 100) (List.replicate (q + 1 + 100) mk) ∧ (ZC).ownsRow 0 34 1 (.slice aL nL cL) nL vs ∧ (ZC).heap[g]? = some (.cells #[.slice aL nL cL, .slice aM nL cM, .int .i64 ((N : Int) + 4 * (q : Int) + 200)] 36 (0, 0)) ∧ Fb wr ZC (fun k => (Value.slice a q c).ownBlock = some k)) := ⟨o2, own_keepF HZ.out.1 o2 gr1 kp1 HZ.out.2.1, row_same HZ.out.2.2.1 (fun k hk => gr1.block k (HZ.out.2.2.1.lt k hk).2 (fun e => row_neF HZ.out.2.2.1 HZ.out.1 hk e.symm)), (gr1.block g (Array.getElem?_eq_some_iff.1 HZ.out.2.2.2.1).1 (fun e => HBg.out g e.symm rfl)).trans HZ.out.2.2.2.1, HZ.out.2.2.2.2.grow gr1 (fun i e _ => e)⟩
         have oX := o1
         have kY := kp_two kp1 kY0
         have HZ := HZ1
         clear HZ1 gr1 o2 nr1 kp1
         refine hK.out _ _ ⟨fun _ => box_cellF HZ.out.2.2.2.1, ?_⟩
         have hHeld := box_cellF HZ.out.2.2.2.1
         clear hK
         try simp only [Act.put, List.setIfInBounds_toArray, List.set_cons_zero, List.set_cons_succ]
         have nX := nrX
         clear nrX o1 kX2 kY0
         refine AnyE.one (i := 14) rfl (by kernel_rfl) (by kernel_rfl) (fun KK hK => ?_)
         refine wp_append_mk (mk := mk) (blk := k2) rfl rfl HZ.out.1 (fun j hj => two_mkF kY hj) (by decide) (by omega) (Nat.zero_le _) ?_
         intro ay cy ZD o1 gr1 o2 nr1 kp1
         rw [List.replicate_append_replicate] at o1
         have nY : Near wr (.slice a q c) (.slice ay (q + 2) cy) := nr1.imp id (fun h g hg => Nat.le_trans HZ.out.2.2.2.2.size (h g hg))
         have oX1 := own_keepF HZ.out.1 o2 gr1 kp1 oX
         have HZ1 : Hid (Own ZD 0 (.slice a q c) q (List.replicate q mk) ∧ Own ZD 0 (.slice a4 (q + 1 + 100) c4) (q + 1 + 100) (List.replicate (q + 1 + 100) mk) ∧ (ZD).ownsRow 0 34 1 (.slice aL nL cL) nL vs ∧ (ZD).heap[g]? = some (.cells #[.slice aL nL cL, .slice aM nL cM, .int .i64 ((N : Int) + 4 * (q : Int) + 200)] 36 (0, 0)) ∧ Fb wr ZD (fun k => (Value.slice a q c).ownBlock = some k)) := ⟨o2, own_keepF HZ.out.1 o2 gr1 kp1 HZ.out.2.1, row_same HZ.out.2.2.1 (fun k hk => gr1.block k (HZ.out.2.2.1.lt k hk).2 (fun e => row_neF HZ.out.2.2.1 HZ.out.1 hk e.symm)), (gr1.block g (Array.getElem?_eq_some_iff.1 HZ.out.2.2.2.1).1 (fun e => HBg.out g e.symm rfl)).trans HZ.out.2.2.2.1, HZ.out.2.2.2.2.grow gr1 (fun i e _ => e)⟩
         have oY1 := o1
         have HZ := HZ1
         clear HZ1 gr1 o2 nr1 kp1 o1 oX kY
         refine hK.out _ _ ⟨fun _ => box_cellF HZ.out.2.2.2.1, ?_⟩
         have hHeld := box_cellF HZ.out.2.2.2.1
         clear hK
         try simp only [Act.put, List.setIfInBounds_toArray, List.set_cons_zero, List.set_cons_succ]
         refine AnyE.one (i := 16) rfl (by kernel_rfl) (by kernel_rfl) (fun KK hK => ?_)
         go_simp
         have bA := (Below.refl (ZD).heap.size (ZD)).alloc (Nat.le_refl _) (.cells #[.slice a q c, .slice ax (q + 1) cx, .slice ay (q + 2) cy, .slice a4 (q + 1 + 100) c4] 34)
         have kA : (ZD.alloc (.cells #[.slice a q c, .slice ax (q + 1) cx, .slice ay (q + 2) cy, .slice a4 (q + 1 + 100) c4] 34)).heap[(ZD).heap.size]? = some (.cells #[.slice a q c, .slice ax (q + 1) cx, .slice ay (q + 2) cy, .slice a4 (q + 1 + 100) c4] 34 (0, 0)) := heap_alloc_new _ _
         obtain ⟨ZE, hZE⟩ : ∃ z, z = ZD.alloc (.cells #[.slice a q c, .slice ax (q + 1) cx, .slice ay (q + 2) cy, .slice a4 (q + 1 + 100) c4] 34) := ⟨_, rfl⟩
         rw [← hZE] at bA kA ⊢
         have HZ : Hid (Own ZE 0 (.slice a q c) q (List.replicate q mk) ∧ Own ZE 0 (.slice a4 (q + 1 + 100) c4) (q + 1 + 100) (List.replicate (q + 1 + 100) mk) ∧ (ZE).ownsRow 0 34 1 (.slice aL nL cL) nL vs ∧ (ZE).heap[g]? = some (.cells #[.slice aL nL cL, .slice aM nL cM, .int .i64 ((N : Int) + 4 * (q : Int) + 200)] 36 (0, 0)) ∧ Fb wr ZE (fun k => (Value.slice a q c).ownBlock = some k)) := ⟨HZ.out.1.later bA, HZ.out.2.1.later bA, row_same HZ.out.2.2.1 (fun k hk => bA.block k (HZ.out.2.2.1.lt k hk).2), (bA.block g (Array.getElem?_eq_some_iff.1 HZ.out.2.2.2.1).1).trans HZ.out.2.2.2.1, HZ.out.2.2.2.2.trans (Fb.of_below bA)⟩
         have oX2 := oX1.later bA
         have oY2 := oY1.later bA
         clear hZE
         refine hK.out _ _ ⟨fun _ => box_cellF HZ.out.2.2.2.1, ?_⟩
         have hHeld := box_cellF HZ.out.2.2.2.1
         clear hK
         try simp only [Act.put, List.setIfInBounds_toArray, List.set_cons_zero, List.set_cons_succ]
         clear oX1 oY1 bA
         refine AnyE.one (i := 17) rfl (by kernel_rfl) (by kernel_rfl) (fun KK hK => ?_)
         refine wp_append_rowF (us := [.slice a q c, .slice ax (q + 1) cx, .slice ay (q + 2) cy, .slice a4 (q + 1 + 100) c4]) (blk := ZD.heap.size) (k := 4) rfl rfl HZ.out.2.2.1 rfl (fun j u hj => four_cellF kA hj) (by simp [Value.oneCell']) (by omega) (Nat.zero_le _) ?_
         intro aR cR ZF r1 gr1 nr1
         have oX3 := oX2.kept_rowF HZ.out.2.2.1 gr1
         have oY3 := oY2.kept_rowF HZ.out.2.2.1 gr1
         have oB3 := HZ.out.1.kept_rowF HZ.out.2.2.1 gr1
         have oG3 := HZ.out.2.1.kept_rowF HZ.out.2.2.1 gr1
         have nR : Near wr (.slice aL nL cL) (.slice aR (nL + 4) cR) := nr1.imp id (fun h g hg => Nat.le_trans HZ.out.2.2.2.2.size (h g hg))
         have bx3 := (gr1.block g (Array.getElem?_eq_some_iff.1 HZ.out.2.2.2.1).1 (fun e => (HF.out.nL_ g e.symm).2 rfl)).trans HZ.out.2.2.2.1
         have f3 : Fb wr ZF (fun k => (Value.slice a q c).ownBlock = some k ∨ (Value.slice aL nL cL).ownBlock = some k) := (HZ.out.2.2.2.2.mono (fun _ _ h => .inl h)).grow gr1 (fun i e _ => .inr e)
         have HE := Lib.hid (And.intro oX3 (And.intro oY3 (And.intro oB3 (And.intro oG3 (And.intro nX (And.intro nY (And.intro r1 (And.intro nR (And.intro bx3 f3)))))))))
         clear oX3 oY3 oB3 oG3 nX nY r1 nR f3 gr1 nr1 oX2 oY2 kA HZ
         refine hK.out _ _ ⟨fun _ => box_cellF bx3, ?_⟩
         have hHeld := box_cellF bx3
         clear hK
         try simp only [Act.put, List.setIfInBounds_toArray, List.set_cons_zero, List.set_cons_succ]
         have zf := box_fzF bx3 0
         clear bx3
         refine AnyE.one (i := 18) rfl (by kernel_rfl) (by kernel_rfl) (fun KK hK => ?_)
         go_simp
         refine hK.out _ _ ⟨fun _ => hHeld, ?_⟩
         clear hK
         try simp only [Act.put, List.setIfInBounds_toArray, List.set_cons_zero, List.set_cons_succ]
         refine AnyE.one (i := 19) rfl (by kernel_rfl) (by kernel_rfl) (fun KK hK => ?_)
         go_simp
         refine hK.out _ _ ⟨fun _ => hHeld, ?_⟩
         clear hK
         try simp only [Act.put, List.setIfInBounds_toArray, List.set_cons_zero, List.set_cons_succ]
         refine AnyE.one (i := 20) rfl (by kernel_rfl) (by kernel_rfl) (fun KK hK => ?_)
         go_simp
         refine hK.out _ _ ⟨fun h => (by cases h), ?_⟩
         clear hK
         refine AnyE.done (by kernel_rfl) (NoPanic.normal ?_) _
         obtain ⟨oX3, oY3, oB3, oG3, nX, nY, r1, nR, bx3, f3⟩ := HE.out
         exact ⟨ax, cx, ay, cy, aR, cR, _, _, _, rfl, oX3.setF (own_boxF oX3 bx3), oY3.setF (own_boxF oY3 bx3), oB3.setF (own_boxF oB3 bx3), oG3.setF (own_boxF oG3 bx3), nX, nY, row_same r1 (fun k hk => Below.heap_setCell _ _ _ _ (row_boxF r1 bx3 k hk)), nR, box_setF0 bx3 _, (f3.mono (fun _ _ h => .inr h)).trans (Fb.set1F (.inl rfl) _ _)⟩
       ·go_simp
        have bA := (Below.refl (Z0).heap.size (Z0)).alloc (Nat.le_refl _) (.cells #[.int .u8 (mk : Int), .int .u8 (mk : Int)] 5)
        have kA : (Z0.alloc (.cells #[.int .u8 (mk : Int), .int .u8 (mk : Int)] 5)).heap[(Z0).heap.size]? = some (.cells #[.int .u8 (mk : Int), .int .u8 (mk : Int)] 5 (0, 0)) := heap_alloc_new _ _
        obtain ⟨Z1, hZ1⟩ : ∃ z, z = Z0.alloc (.cells #[.int .u8 (mk : Int), .int .u8 (mk : Int)] 5) := ⟨_, rfl⟩
        rw [← hZ1] at bA kA ⊢
        have HZ : Hid (Own Z1 0 (.slice a q c) q (List.replicate q mk) ∧ Own Z1 0 (.slice a4 (q + 1 + 100) c4) (q + 1 + 100) (List.replicate (q + 1 + 100) mk) ∧ (Z1).ownsRow 0 34 1 (.slice aL nL cL) nL vs ∧ (Z1).heap[g]? = some (.cells #[.slice aL nL cL, .slice aM nL cM, .int .i64 ((N : Int) + 4 * (q : Int) + 200)] 36 (0, 0)) ∧ Fb wr Z1 (fun k => (Value.slice a q c).ownBlock = some k)) := ⟨HZ.out.1.later bA, HZ.out.2.1.later bA, row_same HZ.out.2.2.1 (fun k hk => bA.block k (HZ.out.2.2.1.lt k hk).2), (bA.block g (Array.getElem?_eq_some_iff.1 HZ.out.2.2.2.1).1).trans HZ.out.2.2.2.1, HZ.out.2.2.2.2.trans (Fb.of_below bA)⟩
        have kY0 := two_ofF kA
        clear hZ1
        refine hK.out _ _ ⟨fun _ => box_cellF HZ.out.2.2.2.1, ?_⟩
        have hHeld := box_cellF HZ.out.2.2.2.1
        clear hK
        try simp only [Act.put, List.setIfInBounds_toArray, List.set_cons_zero, List.set_cons_succ]
        clear kA bA
        obtain ⟨k2, hk2⟩ : ∃ k2, k2 = Z0.heap.size := ⟨_, rfl⟩
        rw [← hk2] at kY0 ⊢
        clear hk2
        refine AnyE.one (i := 8) rfl (by kernel_rfl) (by kernel_rfl) (fun KK hK => ?_)
        go_simp
        have bA := (Below.refl (Z1).heap.size (Z1)).alloc (Nat.le_refl _) (.cells #[.int .u8 (mk : Int)] 5)
        have kA : (Z1.alloc (.cells #[.int .u8 (mk : Int)] 5)).heap[(Z1).heap.size]? = some (.cells #[.int .u8 (mk : Int)] 5 (0, 0)) := heap_alloc_new _ _
        obtain ⟨Z2, hZ2⟩ : ∃ z, z = Z1.alloc (.cells #[.int .u8 (mk : Int)] 5) := ⟨_, rfl⟩
        rw [← hZ2] at bA kA ⊢
        have HZ : Hid (Own Z2 0 (.slice a q c) q (List.replicate q mk) ∧ Own Z2 0 (.slice a4 (q + 1 + 100) c4) (q + 1 + 100) (List.replicate (q + 1 + 100) mk) ∧ (Z2).ownsRow 0 34 1 (.slice aL nL cL) nL vs ∧ (Z2).heap[g]? = some (.cells #[.slice aL nL cL, .slice aM nL cM, .int .i64 ((N : Int) + 4 * (q : Int) + 200)] 36 (0, 0)) ∧ Fb wr Z2 (fun k => (Value.slice a q c).ownBlock = some k)) := ⟨HZ.out.1.later bA, HZ.out.2.1.later bA, row_same HZ.out.2.2.1 (fun k hk => bA.block k (HZ.out.2.2.1.lt k hk).2), (bA.block g (Array.getElem?_eq_some_iff.1 HZ.out.2.2.2.1).1).trans HZ.out.2.2.2.1, HZ.out.2.2.2.2.trans (Fb.of_below bA)⟩
        have kX := kA
        have kY1 := keep2F bA kY0
        clear hZ2
        refine hK.out _ _ ⟨fun _ => box_cellF HZ.out.2.2.2.1, ?_⟩
        have hHeld := box_cellF HZ.out.2.2.2.1
        clear hK
        try simp only [Act.put, List.setIfInBounds_toArray, List.set_cons_zero, List.set_cons_succ]
        clear kA bA kY0
        refine AnyE.one (i := 9) rfl (by kernel_rfl) (by kernel_rfl) (fun KK hK => ?_)
        refine wp_append_mk (mk := mk) (blk := Z1.heap.size) rfl rfl HZ.out.1 (fun j hj => one_mkF kX hj) (by decide) (by omega) (Nat.zero_le _) ?_
        intro ax cx ZC o1 gr1 o2 nr1 kp1
        rw [List.replicate_append_replicate] at o1
        have nrX : Near wr (.slice a q c) (.slice ax (q + 1) cx) := nr1.imp id (fun h g hg => Nat.le_trans HZ.out.2.2.2.2.size (h g hg))
        have HZ1 : Hid (Own ZC 0 (.slice a q c) q (List.replicate q mk) ∧ Own ZC 0 (.slice a4 (q + 1 + 100) c4) (q + 1 + 100) (List.replicate (q + 1 + 100) mk) ∧ (ZC).ownsRow 0 34 1 (.slice aL nL cL) nL vs ∧ (ZC).heap[g]? = some (.cells #[.slice aL nL cL, .slice aM nL cM, .int .i64 ((N : Int) + 4 * (q : Int) + 200)] 36 (0, 0)) ∧ Fb wr ZC (fun k => (Value.slice a q c).ownBlock = some k)) := ⟨o2, own_keepF HZ.out.1 o2 gr1 kp1 HZ.out.2.1, row_same HZ.out.2.2.1 (fun k hk => gr1.block k (HZ.out.2.2.1.lt k hk).2 (fun e => row_neF HZ.out.2.2.1 HZ.out.1 hk e.symm)), (gr1.block g (Array.getElem?_eq_some_iff.1 HZ.out.2.2.2.1).1 (fun e => HBg.out g e.symm rfl)).trans HZ.out.2.2.2.1, HZ.out.2.2.2.2.grow gr1 (fun i e _ => e)⟩
        have oX := o1
        have kY := kp_two kp1 kY1
        have HZ := HZ1
        clear HZ1 gr1 o2 nr1 kp1
        refine hK.out _ _ ⟨fun _ => box_cellF HZ.out.2.2.2.1, ?_⟩
        have hHeld := box_cellF HZ.out.2.2.2.1
        clear hK
        try simp only [Act.put, List.setIfInBounds_toArray, List.set_cons_zero, List.set_cons_succ]
        have nX := nrX
        clear nrX o1 kX kY1
        refine AnyE.one (i := 14) rfl (by kernel_rfl) (by kernel_rfl) (fun KK hK => ?_)
        refine wp_append_mk (mk := mk) (blk := k2) rfl rfl HZ.out.1 (fun j hj => two_mkF kY hj) (by decide) (by omega) (Nat.zero_le _) ?_
        intro ay cy ZD o1 gr1 o2 nr1 kp1
        rw [List.replicate_append_replicate] at o1
        have nY : Near wr (.slice a q c) (.slice ay (q + 2) cy) := nr1.imp id (fun h g hg => Nat.le_trans HZ.out.2.2.2.2.size (h g hg))
        have oX1 := own_keepF HZ.out.1 o2 gr1 kp1 oX
        have HZ1 : Hid (Own ZD 0 (.slice a q c) q (List.replicate q mk) ∧ Own ZD 0 (.slice a4 (q + 1 + 100) c4) (q + 1 + 100) (List.replicate (q + 1 + 100) mk) ∧ (ZD).ownsRow 0 34 1 (.slice aL nL cL) nL vs ∧ (ZD).heap[g]? = some (.cells #[.slice aL nL cL, .slice aM nL cM, .int .i64 ((N : Int) + 4 * (q : Int) + 200)] 36 (0, 0)) ∧ Fb wr ZD (fun k => (Value.slice a q c).ownBlock = some k)) := ⟨o2, own_keepF HZ.out.1 o2 gr1 kp1 HZ.out.2.1, row_same HZ.out.2.2.1 (fun k hk => gr1.block k (HZ.out.2.2.1.lt k hk).2 (fun e => row_neF HZ.out.2.2.1 HZ.out.1 hk e.symm)), (gr1.block g (Array.getElem?_eq_some_iff.1 HZ.out.2.2.2.1).1 (fun e => HBg.out g e.symm rfl)).trans HZ.out.2.2.2.1, HZ.out.2.2.2.2.grow gr1 (fun i e _ => e)⟩
        have oY1 := o1
        have HZ := HZ1
        clear HZ1 gr1 o2 nr1 kp1 o1 oX kY
        refine hK.out _ _ ⟨fun _ => box_cellF HZ.out.2.2.2.1, ?_⟩
        have hHeld := box_cellF HZ.out.2.2.2.1
        clear hK
        try simp only [Act.put, List.setIfInBounds_toArray, List.set_cons_zero, List.set_cons_succ]
        refine AnyE.one (i := 16) rfl (by kernel_rfl) (by kernel_rfl) (fun KK hK => ?_)
        go_simp
        have bA := (Below.refl (ZD).heap.size (ZD)).alloc (Nat.le_refl _) (.cells #[.slice a q c, .slice ax (q + 1) cx, .slice ay (q + 2) cy, .slice a4 (q + 1 + 100) c4] 34)
        have kA : (ZD.alloc (.cells #[.slice a q c, .slice ax (q + 1) cx, .slice ay (q + 2) cy, .slice a4 (q + 1 + 100) c4] 34)).heap[(ZD).heap.size]? = some (.cells #[.slice a q c, .slice ax (q + 1) cx, .slice ay (q + 2) cy, .slice a4 (q + 1 + 100) c4] 34 (0, 0)) := heap_alloc_new _ _
        obtain ⟨ZE, hZE⟩ : ∃ z, z = ZD.alloc (.cells #[.slice a q c, .slice ax (q + 1) cx, .slice ay (q + 2) cy, .slice a4 (q + 1 + 100) c4] 34) := ⟨_, rfl⟩
        rw [← hZE] at bA kA ⊢
        have HZ : Hid (Own ZE 0 (.slice a q c) q (List.replicate q mk) ∧ Own ZE 0 (.slice a4 (q + 1 + 100) c4) (q + 1 + 100) (List.replicate (q + 1 + 100) mk) ∧ (ZE).ownsRow 0 34 1 (.slice aL nL cL) nL vs ∧ (ZE).heap[g]? = some (.cells #[.slice aL nL cL, .slice aM nL cM, .int .i64 ((N : Int) + 4 * (q : Int) + 200)] 36 (0, 0)) ∧ Fb wr ZE (fun k => (Value.slice a q c).ownBlock = some k)) := ⟨HZ.out.1.later bA, HZ.out.2.1.later bA, row_same HZ.out.2.2.1 (fun k hk => bA.block k (HZ.out.2.2.1.lt k hk).2), (bA.block g (Array.getElem?_eq_some_iff.1 HZ.out.2.2.2.1).1).trans HZ.out.2.2.2.1, HZ.out.2.2.2.2.trans (Fb.of_below bA)⟩
        have oX2 := oX1.later bA
        have oY2 := oY1.later bA
        clear hZE
        refine hK.out _ _ ⟨fun _ => box_cellF HZ.out.2.2.2.1, ?_⟩
        have hHeld := box_cellF HZ.out.2.2.2.1
        clear hK
        try simp only [Act.put, List.setIfInBounds_toArray, List.set_cons_zero, List.set_cons_succ]
        clear oX1 oY1 bA
        refine AnyE.one (i := 17) rfl (by kernel_rfl) (by kernel_rfl) (fun KK hK => ?_)
        refine wp_append_rowF (us := [.slice a q c, .slice ax (q + 1) cx, .slice ay (q + 2) cy, .slice a4 (q + 1 + 100) c4]) (blk := ZD.heap.size) (k := 4) rfl rfl HZ.out.2.2.1 rfl (fun j u hj => four_cellF kA hj) (by simp [Value.oneCell']) (by omega) (Nat.zero_le _) ?_
        intro aR cR ZF r1 gr1 nr1
        have oX3 := oX2.kept_rowF HZ.out.2.2.1 gr1
        have oY3 := oY2.kept_rowF HZ.out.2.2.1 gr1
        have oB3 := HZ.out.1.kept_rowF HZ.out.2.2.1 gr1
        have oG3 := HZ.out.2.1.kept_rowF HZ.out.2.2.1 gr1
        have nR : Near wr (.slice aL nL cL) (.slice aR (nL + 4) cR) := nr1.imp id (fun h g hg => Nat.le_trans HZ.out.2.2.2.2.size (h g hg))
        have bx3 := (gr1.block g (Array.getElem?_eq_some_iff.1 HZ.out.2.2.2.1).1 (fun e => (HF.out.nL_ g e.symm).2 rfl)).trans HZ.out.2.2.2.1
        have f3 : Fb wr ZF (fun k => (Value.slice a q c).ownBlock = some k ∨ (Value.slice aL nL cL).ownBlock = some k) := (HZ.out.2.2.2.2.mono (fun _ _ h => .inl h)).grow gr1 (fun i e _ => .inr e)
        have HE := Lib.hid (And.intro oX3 (And.intro oY3 (And.intro oB3 (And.intro oG3 (And.intro nX (And.intro nY (And.intro r1 (And.intro nR (And.intro bx3 f3)))))))))
        clear oX3 oY3 oB3 oG3 nX nY r1 nR f3 gr1 nr1 oX2 oY2 kA HZ
        refine hK.out _ _ ⟨fun _ => box_cellF bx3, ?_⟩
        have hHeld := box_cellF bx3
        clear hK
        try simp only [Act.put, List.setIfInBounds_toArray, List.set_cons_zero, List.set_cons_succ]
        have zf := box_fzF bx3 0
        clear bx3
        refine AnyE.one (i := 18) rfl (by kernel_rfl) (by kernel_rfl) (fun KK hK => ?_)
        go_simp
        refine hK.out _ _ ⟨fun _ => hHeld, ?_⟩
        clear hK
        try simp only [Act.put, List.setIfInBounds_toArray, List.set_cons_zero, List.set_cons_succ]
        refine AnyE.one (i := 19) rfl (by kernel_rfl) (by kernel_rfl) (fun KK hK => ?_)
        go_simp
        refine hK.out _ _ ⟨fun _ => hHeld, ?_⟩
        clear hK
        try simp only [Act.put, List.setIfInBounds_toArray, List.set_cons_zero, List.set_cons_succ]
        refine AnyE.one (i := 20) rfl (by kernel_rfl) (by kernel_rfl) (fun KK hK => ?_)
        go_simp
        refine hK.out _ _ ⟨fun h => (by cases h), ?_⟩
        clear hK
        refine AnyE.done (by kernel_rfl) (NoPanic.normal ?_) _
        obtain ⟨oX3, oY3, oB3, oG3, nX, nY, r1, nR, bx3, f3⟩ := HE.out
        exact ⟨ax, cx, ay, cy, aR, cR, _, _, _, rfl, oX3.setF (own_boxF oX3 bx3), oY3.setF (own_boxF oY3 bx3), oB3.setF (own_boxF oB3 bx3), oG3.setF (own_boxF oG3 bx3), nX, nY, row_same r1 (fun k hk => Below.heap_setCell _ _ _ _ (row_boxF r1 bx3 k hk)), nR, box_setF0 bx3 _, (f3.mono (fun _ _ h => .inr h)).trans (Fb.set1F (.inl rfl) _ _)⟩
      ·rintro e a' Y hq
       cases e with
       | normal =>
        obtain ⟨ax, cx, ay, cy, aR, cR, t64, t69, t72, rfl, HE⟩ := hq
        obtain ⟨oX, oY, oB, oG, nX, nY, r, nR, bx, f⟩ := HE.out
        have fY : Fb w Y (fun k => k = g ∨ (Value.slice a q c).ownBlock = some k ∨ (Value.slice aL nL cL).ownBlock = some k) := (HFX.out.1.mono (fun _ _ e => by rcases e with e | e <;> simp [e])).trans f
        have oM : Own Y 0 (.slice aM nL cM) nL ms := ⟨HF.out.own.1, row_same HF.out.own.2 (fun k hk => fY.block k (HF.out.own.2.lt k hk).2 (by
         rintro (e | e | e)
         ·exact (HF.out.nM k hk).2.1 e
         ·exact HNb.out k e (HFs.out.2.2.2.2 k hk)
         ·exact (HF.out.nM k hk).2.2 e))⟩
        have HD := Lib.hid (fun (a6 : Option Addr) (c6 : Nat) (w6 : World) o6 gr nr => fu_done (w6 := w6) (a6 := a6) (c6 := c6) HF.out HFs.out HNb.out HGb.out HFX.out.1.size oX oY oB oG nX nY (fun k e => (H4.out.2.2.1.elim (fun h => .inl (h ▸ e)) (fun h => .inr (Nat.le_trans (HF1.out.grow HG2.out (fun i e _ => .inr e)).size (h k e))))) r nR bx fY oM o6 gr nr f.size (by omega) hn hmk5)
        have b1 := box_cellF1 bx
        have b6 : Hid (∀ w6 : World, Y.grownBy w6 (Value.slice aM nL cM).ownBlock → w6.cell? ⟨g, 1, none⟩ = some (.slice aM nL cM) ∧ w6.frozen? ⟨g, 1, none⟩ = false) := fun w6 gr => by
         have bx6 := (gr.block g (Array.getElem?_eq_some_iff.1 bx).1 (fun e => (HF.out.nM g e.symm).2.1 rfl)).trans bx
         exact ⟨box_cellF1 bx6, box_fzF bx6 1⟩
        clear HE oX oY oB oG nX nY r nR bx f fY HZ H4 HFX
        go_wp2_with (at_builtin; refine wpList_append_mark rfl _ _ rfl 0 aM nL cM mk _ rfl oM [_, _, _, _] 4 rfl (by simp [bv]) (by decide) (by omega) (Nat.zero_le _) ?_; intro a6 m6 c6 w6 hm6 own6 gr6 ol6 nr6 kp6; refine Hid.out ?_)
        refine Lib.hid ?_
        obtain ⟨c1, z1⟩ := b6.out w6 gr6
        obtain rfl : m6 = nL + 4 := hm6.out
        have HEnd := Lib.hid (HD.out a6 c6 w6 own6 gr6 nr6)
        clear own6 gr6 ol6 nr6 kp6 HD b6 oM b1
        go_wp2
        refine bodyPost_end (results_none rfl _ _ _) rfl ?_
        exact ⟨⟨_, rfl⟩, HEnd.out⟩
       | panic c => exact hq.elim
       | ret => exact hq.elim
       | exit id => exact hq.elim
       | goto t => exact hq.elim
       | outgrown => exact hq.elim
end Go.Proofs.YtpabbnddeklpdaaGreat

namespace Go.Proofs.YtpabbnddeklpdaaGreat
open Go.RowKit
set_option linter.unusedVariables false

structure E3 (w : World) (D : EntD) : Prop where
 r : ∃ a n c xs, D.vr = .slice a n c ∧ n ≤ 200000 ∧ Own w 0 (.slice a n c) n xs
 q : ∃ a n c xs, D.vq = .slice a n c ∧ n ≤ 200000 ∧ Own w 0 (.slice a n c) n xs
 v : ∃ a n c xs, D.vv = .slice a n c ∧ n ≤ 200000 ∧ Own w 0 (.slice a n c) n xs
 rq : ∀ k, D.vr.ownBlock = some k → D.vq.ownBlock ≠ some k
 rv : ∀ k, D.vr.ownBlock = some k → D.vv.ownBlock ≠ some k
 qv : ∀ k, D.vq.ownBlock = some k → D.vv.ownBlock ≠ some k
def EntD.blk (D : EntD) (k : Nat) : Prop := D.vr.ownBlock = some k ∨ D.vq.ownBlock = some k ∨ D.vv.ownBlock = some k
theorem E3.lt {w : World} {D : EntD} (h : E3 w D) : ∀ k, D.blk k → k < w.heap.size := by
 rintro k (e | e | e)
 ·obtain ⟨a, n, c, xs, e2, -, o⟩ := h.r; exact (o.2.lt k (e2 ▸ e)).2
 ·obtain ⟨a, n, c, xs, e2, -, o⟩ := h.q; exact (o.2.lt k (e2 ▸ e)).2
 ·obtain ⟨a, n, c, xs, e2, -, o⟩ := h.v; exact (o.2.lt k (e2 ▸ e)).2
theorem Own.fbF {w w' : World} {B m : Nat} {u : Value} {xs : List Nat} {X : Nat → Prop} (ho : Own w B u m xs) (f : Fb w w' X) (h : ∀ k, u.ownBlock = some k → ¬ X k) : Own w' B u m xs := ⟨ho.1, row_same ho.2 (fun k hk => f.block k (ho.2.lt k hk).2 (h k hk))⟩
theorem EBox.fbF {w w' : World} {g : Nat} {e : EntD} {X : Nat → Prop} (h : EBox w g e) (f : Fb w w' X) (k : ¬ X g) : EBox w' g e := (f.block g (Array.getElem?_eq_some_iff.1 h).1 k).trans h
set_option maxRecDepth 100000 in
set_option maxHeartbeats 4000000 in
theorem fentry_any {w : World} {g : Nat} {FO : Nat → Prop} {D : EntD} (hf : FuB w g FO) (hD : E3 w D) (hb : ∀ k, D.blk k → ¬ FO k) :
  Calls Tryz.prog 8 #[.pointer (some ⟨g, 0, none⟩), .agg D.cells] w fun e w' => (∃ v, e = .returned v) ∧ FuB w' g (fun k => FO k ∨ D.blk k ∨ (w.heap.size ≤ k ∧ k < w'.heap.size)) ∧ Fb w w' (fun k => FO k ∨ D.blk k) := by
 have hlt := hD.lt
 have hFl := hf.lt
 obtain ⟨⟨ar, nr, cr, xr, er, hnr, hor⟩, ⟨aq, nq, cq, xq, eq, hnq, hoq⟩, ⟨av, nv, cv, xv, ev, hnv, hov⟩, rq, rv, qv⟩ := hD
 have A0 := (Below.refl w.heap.size w).alloc (Nat.le_refl _) (.cells D.cells 38)
 have bx0 := EBox.new w D
 have sX : (w.alloc (.cells D.cells 38)).heap.size = w.heap.size + 1 := by simp
 obtain ⟨X0, hX0⟩ : ∃ X, X = w.alloc (.cells D.cells 38) := ⟨_, rfl⟩
 rw [← hX0] at A0 bx0 sX
 have HX0 := Lib.hid hX0
 have HB0 := Lib.hid A0
 have hf0 := hf.later A0
 have T1 := take_any hf0 (hor.later A0) (fun k hk => hb k (.inl (er ▸ hk))) hnr
 have HT1 := Lib.hid T1
 have HA := Lib.hid (And.intro A0 (And.intro bx0 (And.intro (hoq.later A0) (hov.later A0))))
 have HS := Lib.hid (And.intro hlt (And.intro hFl (And.intro hb (And.intro rq (And.intro rv qv)))))
 obtain ⟨vr, fam, vq, ts, seq, kind, vv, row, qual, val⟩ := D
 simp only at er eq ev
 subst er eq ev
 clear T1 hf0 hor hoq hov hlt hFl hb rq rv qv hX0
 have c0 := bx0.vr
 clear bx0
 simp only [EntD.cells] at *
 go_enter Tryz.func8, Tryz.ntmps8
 go_wp2_with fail
 rw [← HX0.out]
 refine HT1.out.mono ?_
 rintro e X1 ⟨⟨v1, rfl⟩, f1, k1⟩
 have bx1 : EBox X1 w.heap.size ⟨.slice ar nr cr, fam, .slice aq nq cq, ts, seq, kind, .slice av nv cv, row, qual, val⟩ := HA.out.2.1.fbF k1 (by
  rintro (e | e)
  ·have := HS.out.2.1 _ e; omega
  ·have := HS.out.1 _ (.inl e); omega)
 have oq1 := HA.out.2.2.1.fbF k1 (fun k hk => by
  rintro (e | e)
  ·exact HS.out.2.2.1 k (.inr (.inl hk)) e
  ·exact HS.out.2.2.2.1 k e hk)
 have ov1 := HA.out.2.2.2.fbF k1 (fun k hk => by
  rintro (e | e)
  ·exact HS.out.2.2.1 k (.inr (.inr hk)) e
  ·exact HS.out.2.2.2.2.1 k e hk)
 have HT2 := Lib.hid (take_any f1 oq1 (fun k hk => by
  rintro (e | e | e)
  ·exact HS.out.2.2.1 k (.inr (.inl hk)) e
  ·exact HS.out.2.2.2.1 k e hk
  ·have := HS.out.1 k (.inr (.inl hk)); omega) hnq)
 have c2 := bx1.vq
 have HA1 := Lib.hid (And.intro bx1 (And.intro ov1 k1))
 clear bx1 oq1 ov1 k1 f1 HT1 HA c0 HX0
 simp only at c2
 go_wp2_with fail
 refine HT2.out.mono ?_
 rintro e X2 ⟨⟨v2, rfl⟩, f2, k2⟩
 have hs1 : w.heap.size + 1 ≤ X1.heap.size := by have := HA1.out.2.2.size; omega
 have bx2 := HA1.out.1.fbF k2 (by
  rintro ((e | e | e) | e)
  ·have := HS.out.2.1 _ e; omega
  ·have := HS.out.1 _ (.inl e); omega
  ·omega
  ·have := HS.out.1 _ (.inr (.inl e)); omega)
 have ov2 := HA1.out.2.1.fbF k2 (fun k hk => by
  rintro ((e | e | e) | e)
  ·exact HS.out.2.2.1 k (.inr (.inr hk)) e
  ·exact HS.out.2.2.2.2.1 k e hk
  ·have := HS.out.1 k (.inr (.inr hk)); omega
  ·exact HS.out.2.2.2.2.2 k e hk)
 have HT3 := Lib.hid (take_any f2 ov2 (fun k hk => by
  rintro ((e | e | e) | e | e)
  ·exact HS.out.2.2.1 k (.inr (.inr hk)) e
  ·exact HS.out.2.2.2.2.1 k e hk
  ·have := HS.out.1 k (.inr (.inr hk)); omega
  ·exact HS.out.2.2.2.2.2 k e hk
  ·have := HS.out.1 k (.inr (.inr hk)); omega) hnv)
 have c6 := bx2.vv
 have HA2 := Lib.hid (And.intro HA1.out.2.2 k2)
 clear bx2 ov2 k2 f2 HT2 HA1 c2
 simp only at c6
 go_wp2_with fail
 refine HT3.out.mono ?_
 rintro e X3 ⟨⟨v3, rfl⟩, f3, k3⟩
 have HEnd := Lib.hid (And.intro f3 k3)
 clear f3 k3 HT3 c6
 go_wp2
 refine bodyPost_end (results_none rfl _ _ _) rfl ?_
 obtain ⟨f3, k3⟩ := HEnd.out
 obtain ⟨k1, k2⟩ := HA2.out
 have hs12 := k2.size
 have hs23 := k3.size
 refine ⟨⟨_, rfl⟩, f3.more ?_ ?_, ?_⟩
 ·rintro i (((e | e | e) | e | e) | e | e)
  ·exact .inl e
  ·exact .inr (.inl (.inl e))
  ·exact .inr (.inr ⟨by omega, by omega⟩)
  ·exact .inr (.inl (.inr (.inl e)))
  ·exact .inr (.inr ⟨by omega, by omega⟩)
  ·exact .inr (.inl (.inr (.inr e)))
  ·exact .inr (.inr ⟨by omega, by omega⟩)
 ·rintro i (e | e | e)
  ·have := HS.out.2.1 i e; omega
  ·have := HS.out.1 i e; omega
  ·exact e.2
 ·have m0 : Fb w X0 (fun k => FO k ∨ EntD.blk ⟨.slice ar nr cr, fam, .slice aq nq cq, ts, seq, kind, .slice av nv cv, row, qual, val⟩ k ∨ w.heap.size ≤ k) := Fb.of_below HB0.out
  have m1 := m0.trans (k1.mono (fun i _ e => by
   rcases e with e | e
   ·exact .inl e
   ·exact .inr (.inl (.inl e))))
  have m2 := m1.trans (k2.mono (fun i _ e => by
   rcases e with (e | e | e) | e
   ·exact .inl e
   ·exact .inr (.inl (.inl e))
   ·exact .inr (.inr (by omega))
   ·exact .inr (.inl (.inr (.inl e)))))
  have m3 := m2.trans (k3.mono (fun i _ e => by
   rcases e with ((e | e | e) | e | e) | e
   ·exact .inl e
   ·exact .inr (.inl (.inl e))
   ·exact .inr (.inr (by omega))
   ·exact .inr (.inl (.inr (.inl e)))
   ·exact .inr (.inr (by omega))
   ·exact .inr (.inl (.inr (.inr e)))))
  refine m3.mono (fun i hi e => ?_)
  rcases e with e | e | e
  ·exact .inl e
  ·exact .inr e
  ·omega
end Go.Proofs.YtpabbnddeklpdaaGreat

namespace Go.Proofs.YtpabbnddeklpdaaGreat
open Go.RowKit
set_option linter.unusedVariables false

theorem keyL_bys {e : EntD} (hr : Bys e.row) (hq : Bys e.qual) (hc : checkS e = 0) : Bys (keyL e) := by
 obtain ⟨_, f, _, _, t, s, k, _⟩ := check_facts hc
 rw [keyL_parts]
 have m5 : ∀ a b : Int, mark a b < 256 := by intro a b; unfold mark; split <;> omega
 refine Bys.app (ordL_bys _ hr) (Bys.app (fun x hx => by simp at hx; omega) (Bys.app (fun x hx => by simp at hx; rw [hx]; exact m5 _ _) (Bys.app ?_ (Bys.app (be8_bys _) (Bys.app (be8_bys _) (Bys.app (fun x hx => by simp at hx; omega) (fun x hx => by simp at hx)))))))
 split
 ·intro x hx; simp at hx
 ·exact Bys.app (ordL_bys _ hq) (fun x hx => by simp at hx; rw [hx]; exact m5 _ _)
theorem keyL_len {e : EntD} (hc : checkS e = 0) : (keyL e).length ≤ 2000 := by
 obtain ⟨f1, f, f3, _, t, s, k, _⟩ := check_facts hc
 rw [keyL_parts]
 have l1 := ordL_len e.row
 have l2 := ordL_len e.qual
 have c1 : e.row.count 0 ≤ e.row.length := List.count_le_length
 have c2 : e.qual.count 0 ≤ e.qual.length := List.count_le_length
 split <;> simp [be8] <;> omega

end Go.Proofs.YtpabbnddeklpdaaGreat

namespace Go.Proofs.YtpabbnddeklpdaaGreat
open Go.RowKit
set_option linter.unusedVariables false

end Go.Proofs.YtpabbnddeklpdaaGreat

namespace Go.Proofs.YtpabbnddeklpdaaGreat
open Go.RowKit
set_option linter.unusedVariables false

end Go.Proofs.YtpabbnddeklpdaaGreat
