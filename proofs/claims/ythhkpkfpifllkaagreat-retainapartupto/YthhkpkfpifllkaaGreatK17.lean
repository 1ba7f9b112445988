import Derived.Test.YthhkpkfpifllkaaGreatK16
namespace Go.Proofs.YthhkpkfpifllkaaGreat
open Go.RowKit
set_option linter.unusedVariables false

structure Kr (w : World) (N g : Nat) (vE vG vB vH : Value) (tl : List Value) (ty : TypeId) (es bs : List Value) : Prop where
  box : KBx w g vE vG vB vH tl ty
  rE : w.ownsRow N 28 1 vE es.length es
  rB : w.ownsRow N 82 1 vB bs.length bs
  tys : ty ≠ 82 ∧ ty ≠ 28 ∧ ty ≠ 84
theorem Kr.later {w w' : World} {N g : Nat} {vE vG vB vH : Value} {tl : List Value} {ty : TypeId} {es bs : List Value} (h : Kr w N g vE vG vB vH tl ty es bs) (b : Below w.heap.size w w') : Kr w' N g vE vG vB vH tl ty es bs :=
  ⟨h.box.keep (b.block g h.box.lt), row_same h.rE (fun k hk => b.block k (h.rE.lt k hk).2), row_same h.rB (fun k hk => b.block k (h.rB.lt k hk).2), h.tys⟩
theorem Kr.putB {w w2 : World} {N g : Nat} {vE vG vB vH u : Value} {tl : List Value} {ty : TypeId} {es bs bs' : List Value} (h : Kr w N g vE vG vB vH tl ty es bs) (gr : w.grownBy w2 vB.ownBlock) (hr : w2.ownsRow N 82 1 u bs'.length bs') (hu : ∀ k, u.ownBlock = some k → vB.ownBlock = some k ∨ w.heap.size ≤ k) : Kr (w2.setCell ⟨g, 2, none⟩ u) N g vE vG u vH tl ty es bs' := by
  have ng : ∀ k, vB.ownBlock = some k → k ≠ g := fun k hk => (row_tyd h.rB hk).ne h.box.tyd (fun z => h.tys.1 z.symm)
  have nE : ∀ k, vE.ownBlock = some k → vB.ownBlock ≠ some k := fun k hk hk2 => (row_tyd h.rE hk).ne (row_tyd h.rB hk2) (by decide) rfl
  have nEg : ∀ k, vE.ownBlock = some k → k ≠ g := fun k hk => (row_tyd h.rE hk).ne h.box.tyd (fun z => h.tys.2.1 z.symm)
  have b2 : KBx w2 g vE vG vB vH tl ty := h.box.keep (gr.block g h.box.lt (fun z => ng g z.symm rfl))
  refine ⟨b2.setB u, row_same h.rE (fun k hk => ?_), row_same hr (fun k hk => Below.heap_setCell _ _ _ _ ?_), h.tys⟩
  · exact (Below.heap_setCell _ _ _ _ (nEg k hk)).trans (gr.block k (h.rE.lt k hk).2 (fun z => nE k hk z.symm))
  · rcases hu k hk with z | z
    · exact ng k z
    · exact (show k ≠ g by have := h.box.lt; omega)
theorem Kr.putE {w w2 : World} {N g : Nat} {vE vG vB vH u : Value} {tl : List Value} {ty : TypeId} {es es' bs : List Value} (h : Kr w N g vE vG vB vH tl ty es bs) (gr : w.grownBy w2 vE.ownBlock) (hr : w2.ownsRow N 28 1 u es'.length es') (hu : ∀ k, u.ownBlock = some k → vE.ownBlock = some k ∨ w.heap.size ≤ k) : KBx w2 g vE vG vB vH tl ty ∧ Kr (w2.setCell ⟨g, 0, none⟩ u) N g u vG vB vH tl ty es' bs := by
  have ng : ∀ k, vE.ownBlock = some k → k ≠ g := fun k hk => (row_tyd h.rE hk).ne h.box.tyd (fun z => h.tys.2.1 z.symm)
  have nE : ∀ k, vB.ownBlock = some k → vE.ownBlock ≠ some k := fun k hk hk2 => (row_tyd h.rB hk).ne (row_tyd h.rE hk2) (by decide) rfl
  have nBg : ∀ k, vB.ownBlock = some k → k ≠ g := fun k hk => (row_tyd h.rB hk).ne h.box.tyd (fun z => h.tys.1 z.symm)
  have b2 : KBx w2 g vE vG vB vH tl ty := h.box.keep (gr.block g h.box.lt (fun z => ng g z.symm rfl))
  refine ⟨b2, b2.setE u, row_same hr (fun k hk => Below.heap_setCell _ _ _ _ ?_), row_same h.rB (fun k hk => ?_), h.tys⟩
  · rcases hu k hk with z | z
    · exact ng k z
    · exact (show k ≠ g by have := h.box.lt; omega)
  · exact (Below.heap_setCell _ _ _ _ (nBg k hk)).trans (gr.block k (h.rB.lt k hk).2 (fun z => nE k hk z.symm))
def KeepP (w w' : World) (N g : Nat) (vE vG vB vH : Value) (tl : List Value) (ty : TypeId) (es bs : List Value) : Prop := ∃ vE' vB', Kr w' N g vE' vG vB' vH tl ty es bs ∧ (∀ k, vE'.ownBlock = some k → vE.ownBlock = some k ∨ w.heap.size ≤ k) ∧ (∀ k, vB'.ownBlock = some k → vB.ownBlock = some k ∨ w.heap.size ≤ k) ∧ SpF w w' (fun i => i = g ∨ vE.ownBlock = some i ∨ vB.ownBlock = some i)
set_option maxRecDepth 100000 in
set_option maxHeartbeats 8000000 in
theorem bkeep_any {w : World} {N g cl : Nat} {vE vG vB vH : Value} {tl : List Value} {ty : TypeId} {es bs : List Value} {al : Option Addr} {xs : List EntD} (h : Kr w N g vE vG vB vH tl ty es bs) (hN : N ≤ w.heap.size) (hl : RdL3 w al cl xs) (hal : ∀ b o, al = some ⟨b, o, none⟩ → Tyd w b 84) (hb : bs.length + 3 * xs.length + 3 ≤ 5864062014805) (he : es.length + 1 ≤ 5864062014805) (hx : xs.length ≤ 1353245080300) :
    Calls Tryz.prog 75 #[.pointer (some ⟨g, 0, none⟩), .slice al xs.length cl] w fun r w' => r = .returned (.tuple #[]) ∧ KeepP w w' N g vE vG vB vH tl ty (es ++ [.slice al xs.length cl]) (bs ++ flat3 xs) := by
  obtain ⟨nx, hnx⟩ : ∃ k, k = xs.length := ⟨_, rfl⟩
  have hlc := hl.cap
  have HL := Lib.hid hl
  have HAl := Lib.hid hal
  have HNx := Lib.hid hnx
  have HLn : Hid (bs.length + 3 * xs.length + 3 ≤ 5864062014805 ∧ es.length + 1 ≤ 5864062014805 ∧ N ≤ w.heap.size) := ⟨hb, he, hN⟩
  have H0 : Hid (Kr w N g vE vG vB vH tl ty es bs) := h
  rw [← hnx] at hlc hx ⊢
  clear h hN hl hal hb he hnx
  go_enter Tryz.func75, Tryz.ntmps75
  go_wp2
  go_loopw [4] (fun i wr => ∃ (t : Nat) (vt : Value), t ≤ nx ∧ i = .int .i64 (t : Int) ∧ Hid (Kr wr N g vE vG vt vH tl ty es (bs ++ flat3 (xs.take t)) ∧ SpF w wr (fun i => i = g ∨ vB.ownBlock = some i) ∧ ∀ k, vt.ownBlock = some k → vB.ownBlock = some k ∨ w.heap.size ≤ k)) (fun i _ => nx - (intOf i).toNat)
  case atStart => exact ⟨0, vB, Nat.zero_le _, rfl, ⟨by simpa [flat3] using H0.out, SpF.refl _ _, fun k hk => .inl hk⟩⟩
  case round =>
    obtain ⟨t, vt, htl, rfl, HS0⟩ := hrel
    have t0 : (0 : Int) ≤ (t : Int) := by omega
    by_cases ht : t < nx
    · have ht2 : (t : Int) < (nx : Int) := by omega
      obtain ⟨x, hxt⟩ : ∃ x, xs[t]? = some x := ⟨_, List.getElem?_eq_getElem (by have := HNx.out; omega)⟩
      obtain ⟨bL, oL, rfl, hcells⟩ : ∃ bL oL, al = some ⟨bL, oL, none⟩ ∧ (w.cell? ⟨bL, oL + t * 7, none⟩ = some x.vr ∧ w.cell? ⟨bL, oL + t * 7 + 2, none⟩ = some x.vq ∧ w.cell? ⟨bL, oL + t * 7 + 6, none⟩ = some x.vv) := by
        rcases HL.out.at_ with z | ⟨b, off, e1, hc⟩
        · rw [z] at hxt; cases hxt
        · exact ⟨b, off, e1, hc t x hxt 0 _ rfl, hc t x hxt 2 _ rfl, hc t x hxt 6 _ rfl⟩
      obtain ⟨_, ar, cr, er, -⟩ := (HL.out.ok x (List.mem_of_getElem? hxt)).1
      obtain ⟨_, aq, cq, eq, -⟩ := (HL.out.ok x (List.mem_of_getElem? hxt)).2.1
      obtain ⟨_, av, cv, ew, -⟩ := (HL.out.ok x (List.mem_of_getElem? hxt)).2.2
      obtain ⟨nr, hnr⟩ : ∃ k, k = x.row.length := ⟨_, rfl⟩
      obtain ⟨nq, hnq⟩ : ∃ k, k = x.qual.length := ⟨_, rfl⟩
      obtain ⟨nv, hnv⟩ : ∃ k, k = x.val.length := ⟨_, rfl⟩
      rw [← hnr] at er
      rw [← hnq] at eq
      rw [← hnv] at ew
      rw [er, eq, ew] at hcells
      have HF3 : Hid (flat3 (xs.take (t + 1)) = flat3 (xs.take t) ++ [.slice ar nr cr, .slice aq nq cq, .slice av nv cv]) := by unfold Hid; rw [flat3_take hxt, er, eq, ew]
      obtain ⟨bt, hbt⟩ : ∃ l, l = bs ++ flat3 (xs.take t) := ⟨_, rfl⟩
      obtain ⟨nB, hnB⟩ : ∃ k, k = bt.length := ⟨_, rfl⟩
      have hk0 := HS0.out.1
      rw [← hbt] at hk0
      obtain ⟨aB, cB, rfl⟩ := row_formW hk0.rB
      rw [← hnB] at hk0 HS0
      have HKr : Hid (Kr wr N g vE vG (.slice aB nB cB) vH tl ty es bt) := hk0
      have HSp := Lib.hid HS0.out.2.1
      have HLo := Lib.hid HS0.out.2.2
      have HLen : Hid (bt.length + 3 ≤ 5864062014805) := by
        unfold Hid
        rw [hbt, List.length_append, flat3_len, List.length_take]
        have := HLn.out.1
        omega
      have hlw := (HAl.out bL oL rfl).lt
      have HbL : Hid (bL ≠ g ∧ (∀ k, vB.ownBlock = some k → bL ≠ k)) := ⟨(HAl.out bL oL rfl).ne H0.out.box.tyd (fun z => H0.out.tys.2.2 z.symm), fun k hk => (HAl.out bL oL rfl).ne (row_tyd H0.out.rB hk) (by decide)⟩
      have HNw : Hid (N ≤ wr.heap.size) := Nat.le_trans HLn.out.2.2 HSp.out.size
      have HcW : Hid (∀ Z : World, Z.heap[bL]? = wr.heap[bL]? → Z.cell? ⟨bL, oL + t * 7, none⟩ = some (.slice ar nr cr) ∧ Z.cell? ⟨bL, oL + t * 7 + 2, none⟩ = some (.slice aq nq cq) ∧ Z.cell? ⟨bL, oL + t * 7 + 6, none⟩ = some (.slice av nv cv)) := fun Z hz => by
        have e1 : Z.heap[bL]? = w.heap[bL]? := hz.trans (HSp.out.block bL hlw (fun z => z.elim HbL.out.1 (fun z => HbL.out.2 bL z rfl)))
        rw [cell_heap e1, cell_heap e1, cell_heap e1]
        exact hcells
      have HlW : Hid (bL < wr.heap.size) := Nat.lt_of_lt_of_le hlw HSp.out.size
      have HbT : Hid (∀ k, (Value.slice aB nB cB).ownBlock = some k → bL ≠ k ∧ k ≠ g) := fun k hk => ⟨fun z => by
        rcases HLo.out k hk with y | y
        · exact HbL.out.2 k y z
        · omega, (row_tyd HKr.out.rB hk).ne HKr.out.box.tyd (fun z => HKr.out.tys.1 z.symm)⟩
      have HS : Hid (∀ Z, Below wr.heap.size wr Z → Z.cell? ⟨g, 2, none⟩ = some (.slice aB nB cB) ∧ Z.cell? ⟨bL, oL + t * 7, none⟩ = some (.slice ar nr cr) ∧ Z.cell? ⟨bL, oL + t * 7 + 2, none⟩ = some (.slice aq nq cq) ∧ Z.cell? ⟨bL, oL + t * 7 + 6, none⟩ = some (.slice av nv cv)) := fun Z b => ⟨(HKr.out.later b).box.c2, HcW.out Z (b.block bL HlW.out)⟩
      have HRB : Hid (∀ Z, Below wr.heap.size wr Z → Z.ownsRow N 82 1 (.slice aB nB cB) bt.length bt) := fun Z b => (HKr.out.later b).rB
      have D0 : Below wr.heap.size wr wr.drew := (Below.refl _ _).drew
      have HS2 : Hid (∀ Z : World, (wr.drew.alloc (.cells #[.slice ar nr cr, .slice aq nq cq, .slice av nv cv] 82)).grownBy Z (Value.slice aB nB cB).ownBlock → Z.cell? ⟨g, 2, none⟩ = some (.slice aB nB cB) ∧ Z.cell? ⟨bL, oL + t * 7, none⟩ = some (.slice ar nr cr) ∧ Z.cell? ⟨bL, oL + t * 7 + 2, none⟩ = some (.slice aq nq cq) ∧ Z.cell? ⟨bL, oL + t * 7 + 6, none⟩ = some (.slice av nv cv)) := fun Z gz => by
        have D2 := D0.alloc D0.size (.cells #[.slice ar nr cr, .slice aq nq cq, .slice av nv cv] 82)
        have k := HKr.out.later D2
        refine ⟨(k.box.keep (gz.block g k.box.lt (fun z => (HbT.out g z.symm).2 rfl))).c2, HcW.out Z ((gz.block bL (Nat.lt_of_lt_of_le HlW.out D2.size) (fun z => (HbT.out bL z.symm).1 rfl)).trans (D2.block bL HlW.out))⟩
      have HFz2 : Hid (∀ Z : World, (wr.drew.alloc (.cells #[.slice ar nr cr, .slice aq nq cq, .slice av nv cv] 82)).grownBy Z (Value.slice aB nB cB).ownBlock → Z.frozen? ⟨g, 2, none⟩ = false) := fun Z gz => by
        have D2 := D0.alloc D0.size (.cells #[.slice ar nr cr, .slice aq nq cq, .slice av nv cv] 82)
        have k := HKr.out.later D2
        exact (k.box.keep (gz.block g k.box.lt (fun z => (HbT.out g z.symm).2 rfl))).fz 2
      have Hbt := Lib.hid hbt
      clear hcells er eq ew hnr hnq hnv hk0 hbt hnB hxt hlw
      have hS := HS.out _ D0
      go_upto_region 3 with fail
      refine wp_region_noPanic ?_
      refine wp_region_anyE (S := fun Z => Z.cell? ⟨g, 2, none⟩ = some (.slice aB nB cB) ∧ Z.cell? ⟨bL, oL + t * 7, none⟩ = some (.slice ar nr cr) ∧ Z.cell? ⟨bL, oL + t * 7 + 2, none⟩ = some (.slice aq nq cq) ∧ Z.cell? ⟨bL, oL + t * 7 + 6, none⟩ = some (.slice av nv cv)) (E := fun j => decide (j < 24)) (by kernel_rfl) ?_
      refine anyE_gen (fun A0 hA0 => ?_)
      have s0 : A0.tmps.size = 45 := by rw [hA0]; rfl
      have v0_0 : Tv A0 0 (.pointer (some ⟨g, 0, none⟩)) := by rw [hA0]; rfl
      have v0_1 : Tv A0 1 (.slice (some ⟨bL, oL, none⟩) nx cl) := by rw [hA0]; rfl
      have v0_4 : Tv A0 4 (.int .i64 (t : Int)) := by rw [hA0]; rfl
      refine AnyE.tk (i := 0) (.pointer (some ⟨g, 0, none⟩)) rfl (by kernel_rfl) (fun _ _ _ h => h) (by rfl) (fun wq hq => op_move v0_0) hS ?_
      refine anyE_gen (fun A1 hA1 => ?_)
      have s1 := tz hA1 s0
      have v1_0 := tn hA1 (by decide) v0_0
      have v1_1 := tn hA1 (by decide) v0_1
      have v1_4 := tn hA1 (by decide) v0_4
      have v1_11 := te hA1 s0 (by decide)
      refine AnyE.tk (i := 1) (.pointer (some ⟨g, 0, none⟩)) rfl (by kernel_rfl) (fun _ _ _ h => h) (by rfl) (fun wq hq => op_move v1_0) hS ?_
      refine anyE_gen (fun A2 hA2 => ?_)
      have s2 := tz hA2 s1
      have v2_1 := tn hA2 (by decide) v1_1
      have v2_4 := tn hA2 (by decide) v1_4
      have v2_11 := tn hA2 (by decide) v1_11
      have v2_12 := te hA2 s1 (by decide)
      refine AnyE.tk (i := 2) (.pointer (some ⟨g, 0, none⟩)) rfl (by kernel_rfl) (fun _ _ _ h => h) (by rfl) (fun wq hq => op_nil v2_12) hS ?_
      refine anyE_gen (fun A3 hA3 => ?_)
      have s3 := tz hA3 s2
      have v3_1 := tn hA3 (by decide) v2_1
      have v3_4 := tn hA3 (by decide) v2_4
      have v3_11 := tn hA3 (by decide) v2_11
      have v3_13 := te hA3 s2 (by decide)
      refine AnyE.tk (i := 3) (.pointer (some ⟨g, 2, none⟩)) rfl (by kernel_rfl) (fun _ _ _ h => h) (by rfl) (fun wq hq => op_fieldB2 v3_13) hS ?_
      refine anyE_gen (fun A4 hA4 => ?_)
      have s4 := tz hA4 s3
      have v4_1 := tn hA4 (by decide) v3_1
      have v4_4 := tn hA4 (by decide) v3_4
      have v4_11 := tn hA4 (by decide) v3_11
      have v4_14 := te hA4 s3 (by decide)
      refine AnyE.tk (i := 4) (.slice aB nB cB) rfl (by kernel_rfl) (fun _ _ _ h => h) (by rfl) (fun wq hq => op_loadP v4_14 hq.1) hS ?_
      refine anyE_gen (fun A5 hA5 => ?_)
      have s5 := tz hA5 s4
      have v5_1 := tn hA5 (by decide) v4_1
      have v5_4 := tn hA5 (by decide) v4_4
      have v5_11 := tn hA5 (by decide) v4_11
      have v5_15 := te hA5 s4 (by decide)
      refine AnyE.tk (i := 5) (.slice (some ⟨bL, oL, none⟩) nx cl) rfl (by kernel_rfl) (fun _ _ _ h => h) (by rfl) (fun wq hq => op_move v5_1) hS ?_
      refine anyE_gen (fun A6 hA6 => ?_)
      have s6 := tz hA6 s5
      have v6_1 := tn hA6 (by decide) v5_1
      have v6_4 := tn hA6 (by decide) v5_4
      have v6_11 := tn hA6 (by decide) v5_11
      have v6_15 := tn hA6 (by decide) v5_15
      have v6_16 := te hA6 s5 (by decide)
      refine AnyE.tk (i := 6) (.int .i64 (t : Int)) rfl (by kernel_rfl) (fun _ _ _ h => h) (by rfl) (fun wq hq => op_move v6_4) hS ?_
      refine anyE_gen (fun A7 hA7 => ?_)
      have s7 := tz hA7 s6
      have v7_1 := tn hA7 (by decide) v6_1
      have v7_4 := tn hA7 (by decide) v6_4
      have v7_11 := tn hA7 (by decide) v6_11
      have v7_15 := tn hA7 (by decide) v6_15
      have v7_16 := tn hA7 (by decide) v6_16
      have v7_17 := te hA7 s6 (by decide)
      refine AnyE.tk (i := 7) (.pointer (some ⟨bL, oL + t * 7, none⟩)) rfl (by kernel_rfl) (fun _ _ _ h => h) (by rfl) (fun wq hq => op_indexE v7_16 v7_17 ht) hS ?_
      refine anyE_gen (fun A8 hA8 => ?_)
      have s8 := tz hA8 s7
      have v8_1 := tn hA8 (by decide) v7_1
      have v8_4 := tn hA8 (by decide) v7_4
      have v8_11 := tn hA8 (by decide) v7_11
      have v8_15 := tn hA8 (by decide) v7_15
      have v8_18 := te hA8 s7 (by decide)
      refine AnyE.tk (i := 8) (.pointer (some ⟨bL, oL + t * 7, none⟩)) rfl (by kernel_rfl) (fun _ _ _ h => h) (by rfl) (fun wq hq => op_fieldE0 v8_18) hS ?_
      refine anyE_gen (fun A9 hA9 => ?_)
      have s9 := tz hA9 s8
      have v9_1 := tn hA9 (by decide) v8_1
      have v9_4 := tn hA9 (by decide) v8_4
      have v9_11 := tn hA9 (by decide) v8_11
      have v9_15 := tn hA9 (by decide) v8_15
      have v9_19 := te hA9 s8 (by decide)
      refine AnyE.tk (i := 9) (.slice ar nr cr) rfl (by kernel_rfl) (fun _ _ _ h => h) (by rfl) (fun wq hq => op_loadY v9_19 hq.2.1) hS ?_
      refine anyE_gen (fun A10 hA10 => ?_)
      have s10 := tz hA10 s9
      have v10_1 := tn hA10 (by decide) v9_1
      have v10_4 := tn hA10 (by decide) v9_4
      have v10_11 := tn hA10 (by decide) v9_11
      have v10_15 := tn hA10 (by decide) v9_15
      have v10_20 := te hA10 s9 (by decide)
      refine AnyE.tk (i := 10) (.slice (some ⟨bL, oL, none⟩) nx cl) rfl (by kernel_rfl) (fun _ _ _ h => h) (by rfl) (fun wq hq => op_move v10_1) hS ?_
      refine anyE_gen (fun A11 hA11 => ?_)
      have s11 := tz hA11 s10
      have v11_1 := tn hA11 (by decide) v10_1
      have v11_4 := tn hA11 (by decide) v10_4
      have v11_11 := tn hA11 (by decide) v10_11
      have v11_15 := tn hA11 (by decide) v10_15
      have v11_20 := tn hA11 (by decide) v10_20
      have v11_21 := te hA11 s10 (by decide)
      refine AnyE.tk (i := 11) (.int .i64 (t : Int)) rfl (by kernel_rfl) (fun _ _ _ h => h) (by rfl) (fun wq hq => op_move v11_4) hS ?_
      refine anyE_gen (fun A12 hA12 => ?_)
      have s12 := tz hA12 s11
      have v12_1 := tn hA12 (by decide) v11_1
      have v12_4 := tn hA12 (by decide) v11_4
      have v12_11 := tn hA12 (by decide) v11_11
      have v12_15 := tn hA12 (by decide) v11_15
      have v12_20 := tn hA12 (by decide) v11_20
      have v12_21 := tn hA12 (by decide) v11_21
      have v12_22 := te hA12 s11 (by decide)
      refine AnyE.tk (i := 12) (.pointer (some ⟨bL, oL + t * 7, none⟩)) rfl (by kernel_rfl) (fun _ _ _ h => h) (by rfl) (fun wq hq => op_indexE v12_21 v12_22 ht) hS ?_
      refine anyE_gen (fun A13 hA13 => ?_)
      have s13 := tz hA13 s12
      have v13_1 := tn hA13 (by decide) v12_1
      have v13_4 := tn hA13 (by decide) v12_4
      have v13_11 := tn hA13 (by decide) v12_11
      have v13_15 := tn hA13 (by decide) v12_15
      have v13_20 := tn hA13 (by decide) v12_20
      have v13_23 := te hA13 s12 (by decide)
      refine AnyE.tk (i := 13) (.pointer (some ⟨bL, oL + t * 7 + 2, none⟩)) rfl (by kernel_rfl) (fun _ _ _ h => h) (by rfl) (fun wq hq => op_fieldE2 v13_23) hS ?_
      refine anyE_gen (fun A14 hA14 => ?_)
      have s14 := tz hA14 s13
      have v14_1 := tn hA14 (by decide) v13_1
      have v14_4 := tn hA14 (by decide) v13_4
      have v14_11 := tn hA14 (by decide) v13_11
      have v14_15 := tn hA14 (by decide) v13_15
      have v14_20 := tn hA14 (by decide) v13_20
      have v14_24 := te hA14 s13 (by decide)
      refine AnyE.tk (i := 14) (.slice aq nq cq) rfl (by kernel_rfl) (fun _ _ _ h => h) (by rfl) (fun wq hq => op_loadY v14_24 hq.2.2.1) hS ?_
      refine anyE_gen (fun A15 hA15 => ?_)
      have s15 := tz hA15 s14
      have v15_1 := tn hA15 (by decide) v14_1
      have v15_4 := tn hA15 (by decide) v14_4
      have v15_11 := tn hA15 (by decide) v14_11
      have v15_15 := tn hA15 (by decide) v14_15
      have v15_20 := tn hA15 (by decide) v14_20
      have v15_25 := te hA15 s14 (by decide)
      refine AnyE.tk (i := 15) (.slice (some ⟨bL, oL, none⟩) nx cl) rfl (by kernel_rfl) (fun _ _ _ h => h) (by rfl) (fun wq hq => op_move v15_1) hS ?_
      refine anyE_gen (fun A16 hA16 => ?_)
      have s16 := tz hA16 s15
      have v16_4 := tn hA16 (by decide) v15_4
      have v16_11 := tn hA16 (by decide) v15_11
      have v16_15 := tn hA16 (by decide) v15_15
      have v16_20 := tn hA16 (by decide) v15_20
      have v16_25 := tn hA16 (by decide) v15_25
      have v16_26 := te hA16 s15 (by decide)
      refine AnyE.tk (i := 16) (.int .i64 (t : Int)) rfl (by kernel_rfl) (fun _ _ _ h => h) (by rfl) (fun wq hq => op_move v16_4) hS ?_
      refine anyE_gen (fun A17 hA17 => ?_)
      have s17 := tz hA17 s16
      have v17_11 := tn hA17 (by decide) v16_11
      have v17_15 := tn hA17 (by decide) v16_15
      have v17_20 := tn hA17 (by decide) v16_20
      have v17_25 := tn hA17 (by decide) v16_25
      have v17_26 := tn hA17 (by decide) v16_26
      have v17_27 := te hA17 s16 (by decide)
      refine AnyE.tk (i := 17) (.pointer (some ⟨bL, oL + t * 7, none⟩)) rfl (by kernel_rfl) (fun _ _ _ h => h) (by rfl) (fun wq hq => op_indexE v17_26 v17_27 ht) hS ?_
      refine anyE_gen (fun A18 hA18 => ?_)
      have s18 := tz hA18 s17
      have v18_11 := tn hA18 (by decide) v17_11
      have v18_15 := tn hA18 (by decide) v17_15
      have v18_20 := tn hA18 (by decide) v17_20
      have v18_25 := tn hA18 (by decide) v17_25
      have v18_28 := te hA18 s17 (by decide)
      refine AnyE.tk (i := 18) (.pointer (some ⟨bL, oL + t * 7 + 6, none⟩)) rfl (by kernel_rfl) (fun _ _ _ h => h) (by rfl) (fun wq hq => op_fieldE6 v18_28) hS ?_
      refine anyE_gen (fun A19 hA19 => ?_)
      have s19 := tz hA19 s18
      have v19_11 := tn hA19 (by decide) v18_11
      have v19_15 := tn hA19 (by decide) v18_15
      have v19_20 := tn hA19 (by decide) v18_20
      have v19_25 := tn hA19 (by decide) v18_25
      have v19_29 := te hA19 s18 (by decide)
      refine AnyE.tk (i := 19) (.slice av nv cv) rfl (by kernel_rfl) (fun _ _ _ h => h) (by rfl) (fun wq hq => op_loadY v19_29 hq.2.2.2) hS ?_
      refine anyE_gen (fun A20 hA20 => ?_)
      have s20 := tz hA20 s19
      have v20_11 := tn hA20 (by decide) v19_11
      have v20_15 := tn hA20 (by decide) v19_15
      have v20_20 := tn hA20 (by decide) v19_20
      have v20_25 := tn hA20 (by decide) v19_25
      have v20_30 := te hA20 s19 (by decide)
      refine AnyE.one (i := 20) rfl (by kernel_rfl) (by rfl) (fun K20 hK20 => ?_)
      refine wp_build3 v20_20 v20_25 v20_30 ?_
      have D2 := D0.alloc D0.size (.cells #[.slice ar nr cr, .slice aq nq cq, .slice av nv cv] 82)
      refine hK20.out _ _ ⟨fun _ => HS.out _ D2, ?_⟩
      clear hK20
      refine anyE_gen (fun A21 hA21 => ?_)
      have s21 := tz hA21 s20
      have v21_11 := tn hA21 (by decide) v20_11
      have v21_15 := tn hA21 (by decide) v20_15
      have v21_31 := te hA21 s20 (by decide)
      refine AnyE.one (i := 21) rfl (by kernel_rfl) (by rfl) (fun K21 hK21 => ?_)
      refine wp_append_w3 (us := bt) (u1 := .slice ar nr cr) (u2 := .slice aq nq cq) (u3 := .slice av nv cv) (.tmp 15) (.tmp 31) rfl (ev_tmp v21_15) (HRB.out _ D0) rfl rfl rfl (ev_tmp v21_31) HLen.out (Nat.le_trans HNw.out D0.size) ?_
      intro a2 n2 c2 w2 en hr2 g2 lo2
      have gq : (wr.drew.alloc (.cells #[.slice ar nr cr, .slice aq nq cq, .slice av nv cv] 82)).heap.size ≤ w2.heap.size := g2.size
      have hS2 := HS2.out w2 g2
      refine hK21.out _ _ ⟨fun _ => hS2, ?_⟩
      clear hK21
      refine anyE_gen (fun A22 hA22 => ?_)
      have s22 := tz hA22 s21
      have v22_11 := tn hA22 (by decide) v21_11
      have v22_32 := te hA22 s21 (by decide)
      refine AnyE.one (i := 22) rfl (by kernel_rfl) (by rfl) (fun K22 hK22 => ?_)
      refine wp_nil0 v22_11 ?_
      refine hK22.out _ _ ⟨fun _ => hS2, ?_⟩
      clear hK22
      refine anyE_gen (fun A23 hA23 => ?_)
      have s23 := tz hA23 s22
      have v23_32 := tn hA23 (by decide) v22_32
      have v23_33 := te hA23 s22 (by decide)
      refine AnyE.one (i := 23) rfl (by kernel_rfl) (by rfl) (fun K23 hK23 => ?_)
      refine wp_fieldB2 v23_33 ?_
      refine hK23.out _ _ ⟨fun _ => hS2, ?_⟩
      clear hK23
      refine anyE_gen (fun A24 hA24 => ?_)
      have s24 := tz hA24 s23
      have v24_32 := tn hA24 (by decide) v23_32
      have v24_34 := te hA24 s23 (by decide)
      refine AnyE.one (i := 24) rfl (by kernel_rfl) (by rfl) (fun K24 hK24 => ?_)
      refine wp_storeP hS2.1 (HFz2.out w2 g2) v24_34 v24_32 ?_
      refine hK24.out _ _ ⟨fun h => (by cases h), ?_⟩
      clear hK24
      refine AnyE.done (by kernel_rfl) (NoPanic.normal ?_) _
      clear s0 v0_0 v0_1 v0_4 s1 v1_0 v1_1 v1_4 v1_11 s2 v2_1 v2_4 v2_11 v2_12 s3 v3_1 v3_4 v3_11 v3_13 s4 v4_1 v4_4 v4_11 v4_14 s5 v5_1 v5_4 v5_11 v5_15 s6 v6_1 v6_4 v6_11 v6_15 v6_16 s7 v7_1 v7_4 v7_11 v7_15 v7_16 v7_17 s8 v8_1 v8_4 v8_11 v8_15 v8_18 s9 v9_1 v9_4 v9_11 v9_15 v9_19 s10 v10_1 v10_4 v10_11 v10_15 v10_20 s11 v11_1 v11_4 v11_11 v11_15 v11_20 v11_21 s12 v12_1 v12_4 v12_11 v12_15 v12_20 v12_21 v12_22 s13 v13_1 v13_4 v13_11 v13_15 v13_20 v13_23 s14 v14_1 v14_4 v14_11 v14_15 v14_20 v14_24 s15 v15_1 v15_4 v15_11 v15_15 v15_20 v15_25 s16 v16_4 v16_11 v16_15 v16_20 v16_25 v16_26 s17 v17_11 v17_15 v17_20 v17_25 v17_26 v17_27 s18 v18_11 v18_15 v18_20 v18_25 v18_28 s19 v19_11 v19_15 v19_20 v19_25 v19_29 s20 v20_11 v20_15 v20_20 v20_25 v20_30 s21 v21_11 v21_15 v21_31 s22 v22_11 v22_32 s23 v23_32 v23_33 s24 v24_32 v24_34
      subst hA24 hA23 hA22 hA21 hA20 hA19 hA18 hA17 hA16 hA15 hA14 hA13 hA12 hA11 hA10 hA9 hA8 hA7 hA6 hA5 hA4 hA3 hA2 hA1 hA0
      have D2 := D0.alloc D0.size (.cells #[.slice ar nr cr, .slice aq nq cq, .slice av nv cv] 82)
      have kq := (HKr.out.later D2).putB g2 hr2 (fun k hk => (lo2 k hk).imp id (fun z => by rw [World.size_alloc]; exact z))
      have sq : SpF wr (w2.setCell ⟨g, 2, none⟩ (.slice a2 n2 c2)) (fun i => i = g ∨ (Value.slice aB nB cB).ownBlock = some i) := ((SpF.of_below _ D2).grown g2 (fun k hk => .inr hk)).grown (grown1 w2 g 2 (.slice a2 n2 c2)) (fun k hk => .inl (Option.some.inj hk).symm)
      have HFin : Hid (Kr (w2.setCell ⟨g, 2, none⟩ (.slice a2 n2 c2)) N g vE vG (.slice a2 n2 c2) vH tl ty es (bs ++ flat3 (xs.take (t + 1))) ∧ SpF w (w2.setCell ⟨g, 2, none⟩ (.slice a2 n2 c2)) (fun i => i = g ∨ vB.ownBlock = some i) ∧ ∀ k, (Value.slice a2 n2 c2).ownBlock = some k → vB.ownBlock = some k ∨ w.heap.size ≤ k) := by
        refine ⟨by rw [HF3.out, ← List.append_assoc, ← Hbt.out]; exact kq, SpF.then HSp.out sq (fun i h1 h2 => ?_), fun k hk => ?_⟩
        · rcases h2 with z | z
          · exact .inl z
          · rcases HLo.out i z with y | y
            · exact .inr y
            · omega
        · rcases lo2 k hk with z | z
          · exact HLo.out k z
          · have := HSp.out.size
            have e : wr.drew.heap.size = wr.heap.size := rfl
            exact .inr (by omega)
      obtain ⟨Wn, hWn⟩ : ∃ Y, Y = w2.setCell ⟨g, 2, none⟩ (.slice a2 n2 c2) := ⟨_, rfl⟩
      rw [← hWn] at HFin ⊢
      clear hWn kq sq D2 D0 hS hS2 g2 hr2 lo2 gq en
      go_simp
      go_wp2
      go_roundw
      case rel => exact ⟨t + 1, _, by omega, by go_num, HFin⟩
      case measure => simp only [intOf]; omega
    · have hge : ¬ (t : Int) < (nx : Int) := by omega
      obtain rfl : t = nx := by omega
      obtain ⟨bt, hbt⟩ : ∃ l, l = bs ++ flat3 (xs.take t) := ⟨_, rfl⟩
      have HKr : Hid (Kr wr N g vE vG vt vH tl ty es bt) := by unfold Hid; rw [hbt]; exact HS0.out.1
      have Hbt : Hid (bt = bs ++ flat3 xs) := by unfold Hid; rw [hbt, List.take_of_length_le (by have := HNx.out; omega)]
      have HSp := Lib.hid HS0.out.2.1
      obtain ⟨aE, cE, rfl⟩ := row_formW HKr.out.rE
      obtain ⟨nE, hnE⟩ : ∃ k, k = es.length := ⟨_, rfl⟩
      rw [← hnE] at HKr HS0 H0
      have HNw : Hid (N ≤ wr.heap.size) := Nat.le_trans HLn.out.2.2 HSp.out.size
      have c0 := HKr.out.box.c0
      have f0 := HKr.out.box.fz 0
      have HnE := Lib.hid hnE
      clear hbt hnE
      have D2 := (Below.refl wr.heap.size wr).alloc (Nat.le_refl _) (.cells #[.slice al t cl] 28)
      have HD2 := Lib.hid D2
      clear D2
      go_wp2_with (at_builtin; refine wpl_append_l1 rfl _ _ rfl N (.slice aE nE cE) es rfl HKr.out.rE (.slice al t cl) rfl rfl HLn.out.2.1 HNw.out ?_; intro a2 n2 c2 w2 en hr2 g2 lo2; have HQ := Lib.hid ((HKr.out.later HD2.out).putE g2 hr2 (fun k hk => (lo2 k hk).imp id (fun z => by rw [World.size_alloc]; exact z))); have HG2 := Lib.hid g2; have HLo2 := Lib.hid lo2; have c02 := HQ.out.1.c0; have f02 := HQ.out.1.fz 0; clear en hr2 g2 lo2)
      refine bodyPost_end (v := .tuple #[]) (by first | rfl | kernel_rfl) rfl ?_
      have hq := HQ.out.2
      rw [Hbt.out] at hq
      have sp : SpF wr (w2.setCell ⟨g, 0, none⟩ (.slice a2 n2 c2)) (fun i => i = g ∨ (Value.slice aE nE cE).ownBlock = some i) := ((SpF.of_below _ HD2.out).grown HG2.out (fun k hk => .inr hk)).grown (grown1 w2 g 0 (.slice a2 n2 c2)) (fun k hk => .inl (Option.some.inj hk).symm)
      have hsp : SpF w (w2.setCell ⟨g, 0, none⟩ (.slice a2 n2 c2)) (fun i => i = g ∨ (Value.slice aE nE cE).ownBlock = some i ∨ vB.ownBlock = some i) := SpF.then (HSp.out.mono (fun i _ z => z.imp id Or.inr)) sp (fun i _ z => z.imp id Or.inl)
      rw [HnE.out] at hsp
      refine ⟨rfl, _, vt, hq, fun k hk => ?_, HS0.out.2.2, hsp⟩
      rcases HLo2.out k hk with z | z
      · exact .inl (by rw [← HnE.out]; exact z)
      · exact .inr (by have := HSp.out.size; omega)
end Go.Proofs.YthhkpkfpifllkaaGreat

namespace Go.Proofs.YthhkpkfpifllkaaGreat
open Go.RowKit
set_option linter.unusedVariables false

def mk3 (i : Nat) : Nat := 1 + i % 250
theorem mk3_int (t : Nat) : ((mk3 t : Nat) : Int) = 1 + (t : Int) % 250 := by unfold mk3; omega
def ByI (w : World) (aB aH : Option Addr) (i : Nat) : Prop := ∃ gB gH a n c b m d, aB = some ⟨gB, 0, none⟩ ∧ aH = some ⟨gH, 0, none⟩ ∧ w.cell? ⟨gB, i, none⟩ = some (.slice a n c) ∧ w.cell? ⟨gH, i, none⟩ = some (.slice b m d) ∧ m ≤ 1125899906842624 ∧ n ≤ 1125899906842624 ∧ (∀ j, j < m → ∃ k, b = some ⟨k, 0, none⟩ ∧ w.cell? ⟨k, j, none⟩ = some (.int .u8 (1 + (i : Int) % 250))) ∧ (∀ j, j < n → ∃ k, a = some ⟨k, 0, none⟩ ∧ w.cell? ⟨k, j, none⟩ = some (.int .u8 (1 + (i : Int) % 250)))
def EnI (w : World) (aE aG : Option Addr) (i : Nat) : Prop := ∃ gE gG a n c b m d, aE = some ⟨gE, 0, none⟩ ∧ aG = some ⟨gG, 0, none⟩ ∧ w.cell? ⟨gE, i, none⟩ = some (.slice a n c) ∧ w.cell? ⟨gG, i, none⟩ = some (.slice b m d) ∧ m ≤ 1125899906842624 ∧ n ≤ 1125899906842624 ∧ (∀ j, j < m → ∃ k, b = some ⟨k, 0, none⟩ ∧ w.cell? ⟨k, j * 7 + 1, none⟩ = some (.int .i64 (-10 - (i : Int)))) ∧ (∀ j, j < n → ∃ k, a = some ⟨k, 0, none⟩ ∧ w.cell? ⟨k, j * 7 + 1, none⟩ = some (.int .i64 (-10 - (i : Int))))
set_option maxRecDepth 100000 in
set_option maxHeartbeats 8000000 in
theorem bstands_any {w : World} {g nB nE cB cH cE cG : Nat} {aB aH aE aG : Option Addr} {tl : List Value} {ty : TypeId} (hK : KBx w g (.slice aE nE cE) (.slice aG nE cG) (.slice aB nB cB) (.slice aH nB cH) tl ty) (hnB : nB ≤ 1125899906842624) (hnE : nE ≤ 1125899906842624) (hB : ∀ i, i < nB → ByI w aB aH i) (hE : ∀ i, i < nE → EnI w aE aG i) :
    Calls Tryz.prog 41 #[.pointer (some ⟨g, 0, none⟩)] w fun r w' => r = .returned (.bool true) ∧ w' = w := by
  have HB := Lib.hid hB
  have HE := Lib.hid hE
  have k0 := hK.c0
  have k1 := hK.c1
  have k2 := hK.c2
  have k3 := hK.c3
  clear hK hB hE
  go_enter Tryz.func41, Tryz.ntmps41
  go_wp2
  go_loopw [3, 4] (fun i j wr => ∃ t : Nat, t ≤ nB ∧ i = .int .i64 (t : Int) ∧ wr = w) (fun i _ _ => nB - (intOf i).toNat)
  case atStart => exact ⟨0, Nat.zero_le _, rfl, rfl⟩
  case round =>
    obtain ⟨t, ht, rfl, rfl⟩ := hrel
    have t0 : (0 : Int) ≤ (t : Int) := by omega
    by_cases hlt : t < nB
    · have hlt2 : (t : Int) < (nB : Int) := by omega
      obtain ⟨gB, gH, a, n, c, b, m, d, rfl, rfl, c1, c2, hm, hn, h1, h2⟩ := HB.out t hlt
      have H1 := Lib.hid h1
      have H2 := Lib.hid h2
      have hw1 : IntKind.i64.wrap (1 + (t : Int) % 250) = 1 + (t : Int) % 250 := by simp [IntKind.wrap, IntKind.bits, IntKind.signed]; omega
      have hw2 : IntKind.u8.wrap (1 + (t : Int) % 250) = 1 + (t : Int) % 250 := by simp [IntKind.wrap, IntKind.bits, IntKind.signed]; omega
      clear h1 h2
      go_wp2
      go_loopw [4] (fun j wr2 => ∃ q : Nat, q ≤ m ∧ j = .int .i64 (q : Int) ∧ wr2 = wr) (fun j _ => m - (intOf j).toNat)
      case atStart => exact ⟨0, Nat.zero_le _, rfl, rfl⟩
      case round =>
        obtain ⟨q, hq, rfl, rfl⟩ := hrel
        have q0 : (0 : Int) ≤ (q : Int) := by omega
        by_cases hlq : q < m
        · have hlq2 : (q : Int) < (m : Int) := by omega
          obtain ⟨kb, rfl, cb⟩ := H1.out q hlq
          by_cases hqn : q < n
          · have hqn2 : (q : Int) < (n : Int) := by omega
            obtain ⟨ka, rfl, ca⟩ := H2.out q hqn
            go_wp2
            go_roundw
            case rel => exact ⟨q + 1, by omega, by go_num, by trivial⟩
            case measure => simp only [intOf]; omega
          · have hqn2 : ¬ (q : Int) < (n : Int) := by omega
            go_wp2
            go_roundw
            case rel => exact ⟨q + 1, by omega, by go_num, by trivial⟩
            case measure => simp only [intOf]; omega
        · have hge : ¬ (q : Int) < (m : Int) := by omega
          go_wp2
          go_roundw
          case rel => exact ⟨t + 1, by omega, by go_num, by trivial⟩
          case measure => simp only [intOf]; omega
    · have hge : ¬ (t : Int) < (nB : Int) := by omega
      go_wp2
      go_loopw [5, 6] (fun i j wz => ∃ p : Nat, p ≤ nE ∧ i = .int .i64 (p : Int) ∧ wz = wr) (fun i _ _ => nE - (intOf i).toNat)
      case atStart => exact ⟨0, Nat.zero_le _, rfl, rfl⟩
      case round =>
        obtain ⟨p, hp, rfl, rfl⟩ := hrel
        have p0 : (0 : Int) ≤ (p : Int) := by omega
        by_cases hlp : p < nE
        · have hlp2 : (p : Int) < (nE : Int) := by omega
          obtain ⟨gE, gG, a, n, c, b, m, d, rfl, rfl, c1, c2, hm, hn, h1, h2⟩ := HE.out p hlp
          have H1 := Lib.hid h1
          have H2 := Lib.hid h2
          have hw1 : IntKind.i64.wrap (-10 - (p : Int)) = -10 - (p : Int) := by simp [IntKind.wrap, IntKind.bits, IntKind.signed]; omega
          clear h1 h2
          go_wp2
          go_loopw [6] (fun j wz2 => ∃ q : Nat, q ≤ m ∧ j = .int .i64 (q : Int) ∧ wz2 = wr) (fun j _ => m - (intOf j).toNat)
          case atStart => exact ⟨0, Nat.zero_le _, rfl, by trivial⟩
          case round =>
            obtain ⟨q, hq, rfl, rfl⟩ := hrel
            have q0 : (0 : Int) ≤ (q : Int) := by omega
            by_cases hlq : q < m
            · have hlq2 : (q : Int) < (m : Int) := by omega
              obtain ⟨kb, rfl, cb⟩ := H1.out q hlq
              by_cases hqn : q < n
              · have hqn2 : (q : Int) < (n : Int) := by omega
                obtain ⟨ka, rfl, ca⟩ := H2.out q hqn
                go_wp2
                go_roundw
                case rel => exact ⟨q + 1, by omega, by go_num, by trivial⟩
                case measure => simp only [intOf]; omega
              · have hqn2 : ¬ (q : Int) < (n : Int) := by omega
                go_wp2
                go_roundw
                case rel => exact ⟨q + 1, by omega, by go_num, by trivial⟩
                case measure => simp only [intOf]; omega
            · have hge2 : ¬ (q : Int) < (m : Int) := by omega
              go_wp2
              go_roundw
              case rel => exact ⟨p + 1, by omega, by go_num, by trivial⟩
              case measure => simp only [intOf]; omega
        · have hge2 : ¬ (p : Int) < (nE : Int) := by omega
          go_wp2
          go_ret
          exact ⟨rfl, rfl⟩
end Go.Proofs.YthhkpkfpifllkaaGreat

namespace Go.Proofs.YthhkpkfpifllkaaGreat
open Go.RowKit
set_option linter.unusedVariables false

structure BI where
  v : Value
  n : Nat
  l : List Nat
def fillB (s t j i : Nat) (p : BI) : List Nat := if i < s then p.l else if i < t then List.replicate p.n (mk3 i) else if i = t then List.replicate j (mk3 i) ++ p.l.drop j else p.l
structure Fil (w wr : World) (N : Nat) (bi : List BI) (s t j : Nat) : Prop where
  sp : SpF w wr (fun k => ∃ i p, s ≤ i ∧ bi[i]? = some p ∧ p.v.ownBlock = some k)
  own : ∀ i p, bi[i]? = some p → Own wr N p.v p.n (fillB s t j i p)
section
variable {w wr : World} {N s t j : Nat} {bi : List BI}
theorem fillB_start (p : BI) (i : Nat) : fillB s s 0 i p = p.l := by
  unfold fillB
  by_cases h : i < s
  · rw [if_pos h]
  · rw [if_neg h, if_neg h]
    by_cases e : i = s
    · rw [if_pos e]; simp
    · rw [if_neg e]
theorem Fil.put {g c : Nat} {p : BI} (h : Fil w wr N bi s t j) (hp : bi[t]? = some p) (hs : s ≤ t) (hv : p.v = .slice (some ⟨g, 0, none⟩) p.n c) (hj : j < p.n) (hd : ∀ i q, bi[i]? = some q → i ≠ t → q.v.ownBlock ≠ some g) : Fil w (wr.setCell ⟨g, j, none⟩ (.int .u8 ((mk3 t : Nat) : Int))) N bi s t (j + 1) := by
  refine ⟨h.sp.grown (grown1 wr g j _) (fun k hk => ⟨t, p, hs, hp, by rw [hv]; exact hk⟩), fun i q hq => ?_⟩
  by_cases e : i = t
  · subst e
    obtain rfl : p = q := Option.some.inj (hp.symm.trans hq)
    have o := h.own i p hp
    rw [hv] at o ⊢
    have o2 := own_put o hj (mk3 i)
    have e1 : (fillB s i j i p).set j (mk3 i) = fillB s i (j + 1) i p := by
      have hl : p.n = (fillB s i j i p).length := o.1
      unfold fillB at hl ⊢
      rw [if_neg (by omega), if_neg (by omega), if_pos rfl] at hl ⊢
      rw [if_neg (by omega), if_neg (by omega), if_pos rfl]
      have hl2 : p.n = j + (p.l.length - j) := by simpa using hl
      rw [List.set_append_right _ _ (by simp), List.length_replicate, Nat.sub_self]
      cases hdr : p.l.drop j with
      | nil => have := congrArg List.length hdr; simp at this; omega
      | cons x r =>
        have hd2 : p.l.drop (j + 1) = r := by rw [← List.drop_drop, hdr]; rfl
        rw [hd2, List.replicate_succ', List.append_assoc]
        rfl
    rw [← e1]
    exact o2
  · have o := h.own i q hq
    have e2 : fillB s t (j + 1) i q = fillB s t j i q := by unfold fillB; rw [if_neg e, if_neg e]
    rw [e2]
    refine own_same o (fun k hk => Below.heap_setCell _ _ _ _ (fun z => ?_))
    have z' : k = g := z
    exact hd i q hq e (z' ▸ hk)
theorem Fil.next {p : BI} (h : Fil w wr N bi s t j) (hp : bi[t]? = some p) (hs : s ≤ t) (hj : j = p.n) : Fil w wr N bi s (t + 1) 0 := by
  refine ⟨h.sp, fun i q hq => ?_⟩
  have o := h.own i q hq
  have e : fillB s (t + 1) 0 i q = fillB s t j i q := by
    unfold fillB
    by_cases h1 : i < s
    · rw [if_pos h1, if_pos h1]
    · rw [if_neg h1, if_neg h1]
      by_cases h2 : i < t
      · rw [if_pos h2, if_pos (by omega)]
      · rw [if_neg h2]
        by_cases h3 : i = t
        · subst h3
          obtain rfl : p = q := Option.some.inj (hp.symm.trans hq)
          rw [if_pos (by omega), if_pos rfl]
          have hl : p.n = (fillB s i j i p).length := (h.own i p hp).1
          unfold fillB at hl
          rw [if_neg h1, if_neg h2, if_pos rfl] at hl
          have hl2 : p.n = j + (p.l.length - j) := by simpa using hl
          have : p.l.drop j = [] := List.drop_eq_nil_of_le (by omega)
          rw [this, hj]; simp
        · rw [if_neg (by omega), if_neg h3]
          by_cases h4 : i = t + 1
          · rw [if_pos h4]; simp
          · rw [if_neg h4]
  rw [e]; exact o
end
def eM (i : Nat) : EntD := ⟨.slice none 0 0, -10 - (i : Int), .slice none 0 0, 0, 0, 0, .slice none 0 0, [], [], []⟩
structure EI where
  v : Value
  n : Nat
  zs : List EntD
def fillE (s t j i : Nat) (p : EI) : List EntD := if i < s then p.zs else if i < t then List.replicate p.n (eM i) else if i = t then List.replicate j (eM i) ++ p.zs.drop j else p.zs
structure Fie (w wr : World) (N : Nat) (ei : List EI) (s t j : Nat) : Prop where
  sp : SpF w wr (fun k => ∃ i p, s ≤ i ∧ ei[i]? = some p ∧ p.v.ownBlock = some k)
  own : ∀ i p, ei[i]? = some p → wr.ownsRow N 84 7 p.v p.n (evals (fillE s t j i p)) ∧ p.n = (fillE s t j i p).length
section
variable {w wr : World} {N s t j : Nat} {ei : List EI}
theorem fillE_start (p : EI) (i : Nat) : fillE s s 0 i p = p.zs := by
  unfold fillE
  by_cases h : i < s
  · rw [if_pos h]
  · rw [if_neg h, if_neg h]
    by_cases e : i = s
    · rw [if_pos e]; simp
    · rw [if_neg e]
theorem Fie.put {g c : Nat} {p : EI} (h : Fie w wr N ei s t j) (hp : ei[t]? = some p) (hs : s ≤ t) (hv : p.v = .slice (some ⟨g, 0, none⟩) p.n c) (hj : j < p.n) (hd : ∀ i q, ei[i]? = some q → i ≠ t → q.v.ownBlock ≠ some g) : ∃ Y, Y = (((((((wr.setCell ⟨g, j * 7, none⟩ (eM t).vr).setCell ⟨g, j * 7 + 1, none⟩ (.int .i64 (eM t).fam)).setCell ⟨g, j * 7 + 2, none⟩ (eM t).vq).setCell ⟨g, j * 7 + 3, none⟩ (.int .i64 (eM t).ts)).setCell ⟨g, j * 7 + 4, none⟩ (.int .i64 (eM t).seq)).setCell ⟨g, j * 7 + 5, none⟩ (.int .i64 (eM t).kind)).setCell ⟨g, j * 7 + 6, none⟩ (eM t).vv) ∧ Fie w Y N ei s t (j + 1) := by
  obtain ⟨o, hl⟩ := h.own t p hp
  rw [hv] at o
  have rr := row_set7 o hl (by rw [← hl]; exact hj) (eM t)
  obtain ⟨Y, hY⟩ : ∃ Y, Y = (((((((wr.setCell ⟨g, j * 7, none⟩ (eM t).vr).setCell ⟨g, j * 7 + 1, none⟩ (.int .i64 (eM t).fam)).setCell ⟨g, j * 7 + 2, none⟩ (eM t).vq).setCell ⟨g, j * 7 + 3, none⟩ (.int .i64 (eM t).ts)).setCell ⟨g, j * 7 + 4, none⟩ (.int .i64 (eM t).seq)).setCell ⟨g, j * 7 + 5, none⟩ (.int .i64 (eM t).kind)).setCell ⟨g, j * 7 + 6, none⟩ (eM t).vv) := ⟨_, rfl⟩
  rw [← hY] at rr
  obtain ⟨r1, r2⟩ := rr
  refine ⟨Y, hY, h.sp.grown r2 (fun k hk => ⟨t, p, hs, hp, by rw [hv]; exact hk⟩), fun i q hq => ?_⟩
  by_cases e : i = t
  · subst e
    obtain rfl : p = q := Option.some.inj (hp.symm.trans hq)
    have e1 : (fillE s i j i p).set j (eM i) = fillE s i (j + 1) i p := by
      unfold fillE at hl ⊢
      rw [if_neg (by omega), if_neg (by omega), if_pos rfl] at hl ⊢
      rw [if_neg (by omega), if_neg (by omega), if_pos rfl]
      have hl2 : p.n = j + (p.zs.length - j) := by simpa using hl
      rw [List.set_append_right _ _ (by simp), List.length_replicate, Nat.sub_self]
      cases hdr : p.zs.drop j with
      | nil => have := congrArg List.length hdr; simp at this; omega
      | cons x r =>
        have hd2 : p.zs.drop (j + 1) = r := by rw [← List.drop_drop, hdr]; rfl
        rw [hd2, List.replicate_succ', List.append_assoc]
        rfl
    rw [hv, ← e1]
    exact ⟨r1, by rw [List.length_set]; exact hl⟩
  · obtain ⟨o', hl'⟩ := h.own i q hq
    have e2 : fillE s t (j + 1) i q = fillE s t j i q := by unfold fillE; rw [if_neg e, if_neg e]
    rw [e2]
    exact ⟨row_same o' (fun k hk => r2.block k (o'.lt k hk).2 (fun z => hd i q hq e (by rw [← Option.some.inj z]; exact hk))), hl'⟩
theorem Fie.next {p : EI} (h : Fie w wr N ei s t j) (hp : ei[t]? = some p) (hs : s ≤ t) (hj : j = p.n) : Fie w wr N ei s (t + 1) 0 := by
  refine ⟨h.sp, fun i q hq => ?_⟩
  have o := h.own i q hq
  have e : fillE s (t + 1) 0 i q = fillE s t j i q := by
    unfold fillE
    by_cases h1 : i < s
    · rw [if_pos h1, if_pos h1]
    · rw [if_neg h1, if_neg h1]
      by_cases h2 : i < t
      · rw [if_pos h2, if_pos (by omega)]
      · rw [if_neg h2]
        by_cases h3 : i = t
        · subst h3
          obtain rfl : p = q := Option.some.inj (hp.symm.trans hq)
          rw [if_pos (by omega), if_pos rfl]
          have hl : p.n = (fillE s i j i p).length := (h.own i p hp).2
          unfold fillE at hl
          rw [if_neg h1, if_neg h2, if_pos rfl] at hl
          have hl2 : p.n = j + (p.zs.length - j) := by simpa using hl
          have : p.zs.drop j = [] := List.drop_eq_nil_of_le (by omega)
          rw [this, hj]; simp
        · rw [if_neg (by omega), if_neg h3]
          by_cases h4 : i = t + 1
          · rw [if_pos h4]; simp
          · rw [if_neg h4]
  rw [e]; exact o
end
end Go.Proofs.YthhkpkfpifllkaaGreat

namespace Go.Proofs.YthhkpkfpifllkaaGreat
open Go.RowKit
set_option linter.unusedVariables false

theorem row1_cell {w : World} {N n c i : Nat} {e : TypeId} {a : Option Addr} {us : List Value} {u : Value} (h : w.ownsRow N e 1 (.slice a n c) n us) (hn : n = us.length) (hu : us[i]? = some u) : ∃ g, a = some ⟨g, 0, none⟩ ∧ w.cell? ⟨g, i, none⟩ = some u := by
  rcases h.2 with ⟨h1, h2⟩ | ⟨g, cap, cur, h1, h2, h3, h4, h5, h6, h7⟩
  · have hz : us = [] := List.eq_nil_of_length_eq_zero (by omega)
    rw [hz] at hu; cases hu
  · simp only [Value.slice.injEq] at h1
    refine ⟨g, h1.1, ?_⟩
    have hi : i < us.length := (List.getElem?_eq_some_iff.1 hu).1
    rw [← h7, Nat.mul_one, List.getElem?_take_of_lt (by omega)] at hu
    simp only [World.cell?, h3]
    simpa using hu
structure Bp (w : World) (N g : Nat) (aE aG aB aH : Option Addr) (cE cG cB cH sE sB : Nat) (tl : List Value) (ty : TypeId) (bi : List BI) (ei : List EI) : Prop where
  box : KBx w g (.slice aE ei.length cE) (.slice aG sE cG) (.slice aB bi.length cB) (.slice aH sB cH) tl ty
  rB : w.ownsRow N 82 1 (.slice aB bi.length cB) bi.length (bi.map BI.v)
  rE : w.ownsRow N 28 1 (.slice aE ei.length cE) ei.length (ei.map EI.v)
  tys : ty ≠ 82 ∧ ty ≠ 28 ∧ ty ≠ 84 ∧ ty ≠ 5
  oB : ∀ (i : Nat) (p : BI), bi[i]? = some p → Own w N p.v p.n p.l
  oE : ∀ (i : Nat) (p : EI), ei[i]? = some p → w.ownsRow N 84 7 p.v p.n (evals p.zs) ∧ p.n = p.zs.length
  apB : ∀ (i j : Nat) (p q : BI), bi[i]? = some p → bi[j]? = some q → i ≠ j → ∀ k, p.v.ownBlock = some k → q.v.ownBlock ≠ some k
  apE : ∀ (i j : Nat) (p q : EI), ei[i]? = some p → ei[j]? = some q → i ≠ j → ∀ k, p.v.ownBlock = some k → q.v.ownBlock ≠ some k
  len : (∀ (i : Nat) (p : BI), bi[i]? = some p → p.n ≤ 3000000) ∧ ∀ (i : Nat) (p : EI), ei[i]? = some p → p.n ≤ 274877906944
  few : bi.length ≤ 1125899906842624 ∧ ei.length ≤ 1125899906842624 ∧ sB ≤ bi.length ∧ sE ≤ ei.length
section
variable {w wr : World} {N g : Nat} {aE aG aB aH : Option Addr} {cE cG cB cH sE sB : Nat} {tl : List Value} {ty : TypeId} {bi : List BI} {ei : List EI} {t j : Nat}
theorem Bp.fil (h : Bp w N g aE aG aB aH cE cG cB cH sE sB tl ty bi ei) (f : Fil w wr N bi sB t j) : KBx wr g (.slice aE ei.length cE) (.slice aG sE cG) (.slice aB bi.length cB) (.slice aH sB cH) tl ty ∧ wr.ownsRow N 82 1 (.slice aB bi.length cB) bi.length (bi.map BI.v) ∧ wr.ownsRow N 28 1 (.slice aE ei.length cE) ei.length (ei.map EI.v) ∧ ∀ (i : Nat) (p : EI), ei[i]? = some p → wr.ownsRow N 84 7 p.v p.n (evals p.zs) ∧ p.n = p.zs.length := by
  have nt : ∀ k ty', Tyd w k ty' → ty' ≠ 5 → wr.heap[k]? = w.heap[k]? := fun k ty' hk hne => f.sp.block k hk.lt (fun ⟨i, p, _, hp, hb⟩ => (row_tyd (h.oB i p hp).2 hb).ne hk (fun z => hne z.symm) rfl)
  refine ⟨h.box.keep (nt g ty h.box.tyd h.tys.2.2.2), row_same h.rB (fun k hk => nt k _ (row_tyd h.rB hk) (by decide)), row_same h.rE (fun k hk => nt k _ (row_tyd h.rE hk) (by decide)), fun i p hp => ⟨row_same (h.oE i p hp).1 (fun k hk => nt k _ (row_tyd (h.oE i p hp).1 hk) (by decide)), (h.oE i p hp).2⟩⟩
end
end Go.Proofs.YthhkpkfpifllkaaGreat

namespace Go.Proofs.YthhkpkfpifllkaaGreat
open Go.RowKit
set_option linter.unusedVariables false

section
variable {w wr : World} {N g : Nat} {aE aG aB aH : Option Addr} {cE cG cB cH sE sB : Nat} {tl : List Value} {ty : TypeId} {bi : List BI} {ei : List EI} {t j : Nat}
theorem Bp.fie (h : Bp w N g aE aG aB aH cE cG cB cH sE sB tl ty bi ei) (f : Fie w wr N ei sE t j) : KBx wr g (.slice aE ei.length cE) (.slice aG sE cG) (.slice aB bi.length cB) (.slice aH sB cH) tl ty ∧ wr.ownsRow N 82 1 (.slice aB bi.length cB) bi.length (bi.map BI.v) ∧ wr.ownsRow N 28 1 (.slice aE ei.length cE) ei.length (ei.map EI.v) ∧ ∀ (i : Nat) (p : BI), bi[i]? = some p → Own wr N p.v p.n p.l := by
  have nt : ∀ k ty', Tyd w k ty' → ty' ≠ 84 → wr.heap[k]? = w.heap[k]? := fun k ty' hk hne => f.sp.block k hk.lt (fun ⟨i, p, _, hp, hb⟩ => (row_tyd (h.oE i p hp).1 hb).ne hk (fun z => hne z.symm) rfl)
  refine ⟨h.box.keep (nt g ty h.box.tyd h.tys.2.2.1), row_same h.rB (fun k hk => nt k _ (row_tyd h.rB hk) (by decide)), row_same h.rE (fun k hk => nt k _ (row_tyd h.rE hk) (by decide)), fun i p hp => own_same (h.oB i p hp) (fun k hk => nt k _ (row_tyd (h.oB i p hp).2 hk) (by decide))⟩
def fulB (sB : Nat) (bi : List BI) : List BI := bi.mapIdx fun i p => { p with l := fillB sB bi.length 0 i p }
theorem fulB_len : (fulB sB bi).length = bi.length := by simp [fulB]
theorem fulB_at {i : Nat} {p : BI} (h : (fulB sB bi)[i]? = some p) : ∃ q, bi[i]? = some q ∧ p.v = q.v ∧ p.n = q.n ∧ p.l = fillB sB bi.length 0 i q := by
  unfold fulB at h
  rw [List.getElem?_mapIdx] at h
  cases hq : bi[i]? with
  | none => rw [hq] at h; cases h
  | some q =>
    rw [hq] at h
    have := Option.some.inj h
    subst this
    exact ⟨q, rfl, rfl, rfl, rfl⟩
theorem fulB_v : (fulB sB bi).map BI.v = bi.map BI.v := by
  refine List.ext_getElem? (fun i => ?_)
  rw [List.getElem?_map, List.getElem?_map]
  unfold fulB
  rw [List.getElem?_mapIdx]
  cases bi[i]? <;> rfl
theorem Bp.filled (h : Bp w N g aE aG aB aH cE cG cB cH sE sB tl ty bi ei) (f : Fil w wr N bi sB bi.length 0) : Bp wr N g aE aG aB aH cE cG cB cH sE sB tl ty (fulB sB bi) ei := by
  obtain ⟨f1, f2, f3, f4⟩ := h.fil f
  refine ⟨by rw [fulB_len]; exact f1, by rw [fulB_len, fulB_v]; exact f2, f3, h.tys, fun i p hp => ?_, f4, fun i j p q hp hq hne k hk hk2 => ?_, h.apE, ⟨fun i p hp => ?_, h.len.2⟩, by rw [fulB_len]; exact h.few⟩
  · obtain ⟨q, e1, e2, e3, e4⟩ := fulB_at hp
    rw [e2, e3, e4]
    exact f.own i q e1
  · obtain ⟨p', a1, a2, _⟩ := fulB_at hp
    obtain ⟨q', b1, b2, _⟩ := fulB_at hq
    exact h.apB i j p' q' a1 b1 hne k (a2 ▸ hk) (b2 ▸ hk2)
  · obtain ⟨q, e1, e2, e3, e4⟩ := fulB_at hp
    rw [e3]; exact h.len.1 i q e1
end
end Go.Proofs.YthhkpkfpifllkaaGreat

namespace Go.Proofs.YthhkpkfpifllkaaGreat
open Go.RowKit
set_option linter.unusedVariables false

theorem rowE_at {w : World} {N n c j : Nat} {a : Option Addr} {zs : List EntD} (h : w.ownsRow N 84 7 (.slice a n c) n (evals zs)) (hn : n = zs.length) (hj : j < n) : ∃ g, a = some ⟨g, 0, none⟩ ∧ (∃ v, w.cell? ⟨g, j * 7, none⟩ = some v) ∧ (∃ v, w.cell? ⟨g, j * 7 + 1, none⟩ = some v) ∧ (∃ v, w.cell? ⟨g, j * 7 + 2, none⟩ = some v) ∧ (∃ v, w.cell? ⟨g, j * 7 + 3, none⟩ = some v) ∧ (∃ v, w.cell? ⟨g, j * 7 + 4, none⟩ = some v) ∧ (∃ v, w.cell? ⟨g, j * 7 + 5, none⟩ = some v) ∧ (∃ v, w.cell? ⟨g, j * 7 + 6, none⟩ = some v) ∧ ∀ i, w.frozen? ⟨g, i, none⟩ = false := by
  obtain ⟨x, hx⟩ : ∃ x, zs[j]? = some x := ⟨_, List.getElem?_eq_getElem (by omega)⟩
  subst hn
  obtain ⟨g, e, _, _, hc⟩ := row_cells3 h hx
  refine ⟨g, e, ⟨_, hc 0 _ rfl⟩, ⟨_, hc 1 _ rfl⟩, ⟨_, hc 2 _ rfl⟩, ⟨_, hc 3 _ rfl⟩, ⟨_, hc 4 _ rfl⟩, ⟨_, hc 5 _ rfl⟩, ⟨_, hc 6 _ rfl⟩, fun i => ?_⟩
  subst e
  rcases h.2 with ⟨h1, _⟩ | ⟨g', cap, cur, h1, h2, h3, _⟩
  · cases h1
  · simp only [Value.slice.injEq, Option.some.injEq, Addr.mk.injEq] at h1
    obtain ⟨⟨rfl, -, -⟩, -, rfl⟩ := h1
    simp [World.frozen?, h3]
end Go.Proofs.YthhkpkfpifllkaaGreat

namespace Go.Proofs.YthhkpkfpifllkaaGreat
open Go.RowKit
set_option linter.unusedVariables false

section
variable {w wr : World} {N g : Nat} {aE aG aB aH : Option Addr} {cE cG cB cH sE sB : Nat} {tl : List Value} {ty : TypeId} {bi : List BI} {ei : List EI} {t j : Nat}
def fulE (sE : Nat) (ei : List EI) : List EI := ei.mapIdx fun i p => { p with zs := fillE sE ei.length 0 i p }
theorem fulE_len : (fulE sE ei).length = ei.length := by simp [fulE]
theorem fulE_at {i : Nat} {p : EI} (h : (fulE sE ei)[i]? = some p) : ∃ q, ei[i]? = some q ∧ p.v = q.v ∧ p.n = q.n ∧ p.zs = fillE sE ei.length 0 i q := by
  unfold fulE at h
  rw [List.getElem?_mapIdx] at h
  cases hq : ei[i]? with
  | none => rw [hq] at h; cases h
  | some q =>
    rw [hq] at h
    have := Option.some.inj h
    subst this
    exact ⟨q, rfl, rfl, rfl, rfl⟩
theorem fulE_v : (fulE sE ei).map EI.v = ei.map EI.v := by
  refine List.ext_getElem? (fun i => ?_)
  rw [List.getElem?_map, List.getElem?_map]
  unfold fulE
  rw [List.getElem?_mapIdx]
  cases ei[i]? <;> rfl
theorem Bp.filledE (h : Bp w N g aE aG aB aH cE cG cB cH sE sB tl ty bi ei) (f : Fie w wr N ei sE ei.length 0) : Bp wr N g aE aG aB aH cE cG cB cH sE sB tl ty bi (fulE sE ei) := by
  obtain ⟨f1, f2, f3, f4⟩ := h.fie f
  refine ⟨by rw [fulE_len]; exact f1, f2, by rw [fulE_len, fulE_v]; exact f3, h.tys, f4, fun i p hp => ?_, h.apB, fun i j p q hp hq hne k hk hk2 => ?_, ⟨h.len.1, fun i p hp => ?_⟩, by rw [fulE_len]; exact h.few⟩
  · obtain ⟨q, e1, e2, e3, e4⟩ := fulE_at hp
    rw [e2, e3, e4]
    exact f.own i q e1
  · obtain ⟨p', a1, a2, _⟩ := fulE_at hp
    obtain ⟨q', b1, b2, _⟩ := fulE_at hq
    exact h.apE i j p' q' a1 b1 hne k (a2 ▸ hk) (b2 ▸ hk2)
  · obtain ⟨q, e1, e2, e3, e4⟩ := fulE_at hp
    rw [e3]; exact h.len.2 i q e1
end
end Go.Proofs.YthhkpkfpifllkaaGreat

namespace Go.Proofs.YthhkpkfpifllkaaGreat
open Go.RowKit
set_option linter.unusedVariables false

theorem appendKeepE {w : World} {B : Nat} {v : Value} {xs : List EntD} {x : EntD} (ty : TypeId) (hr : w.ownsRow B 84 7 v xs.length (evals xs)) (ad : Addr) (hc : ∀ j u, x.cells.toList[j]? = some u → w.cell? (ad.add j) = some u) (h1 : ∀ u ∈ x.cells.toList, u.oneCell' = true) (hn : (xs.length + 1) * 104 ≤ 140737488355328) (hB : B ≤ w.heap.size) :
    ∃ v' w', (Builtin.append_ #[28, 28] ty #[v, .slice (some ad) 1 1]).run Tryz.prog w = .ok v' w' ∧ w'.ownsRow B 84 7 v' (xs ++ [x]).length (evals (xs ++ [x])) ∧ w.grownBy w' v.ownBlock ∧ w'.ownsRow B 84 7 v xs.length (evals xs) ∧ (∀ k, v'.ownBlock = some k → v.ownBlock = some k ∨ k = w.heap.size) := by
  obtain ⟨i0, hi, hz0, hz1, hz2⟩ := info_parts info_ent3
  obtain ⟨v', w', hrn, h2, h3, h4⟩ := run_append_ent (ty := ty) hr ad hc h1 hn hB
  refine ⟨v', w', hrn, h2, h3, ?_, h4⟩
  have hl7 : x.cells.toList.length = 1 * 7 := rfl
  rcases hr.2 with ⟨rfl, h0⟩ | ⟨g, cap, cur, rfl, hg1, hg2, hg3, hg4, hg5, hg6⟩
  · have hx : xs = [] := List.eq_nil_of_length_eq_zero h0
    subst hx
    exact ⟨by simp [evals], .inl ⟨rfl, rfl⟩⟩
  · by_cases hroom : xs.length + 1 ≤ cap
    · obtain ⟨w2, hr2, k2, _⟩ := run_append_own_spare (P := Tryz.prog) w B 28 ty 84 i0 7 und_ents3 hi hz1 g xs.length cap (evals xs) hr ad 1 1 x.cells.toList hl7 hc h1 hroom
      rw [hrn] at hr2
      injection hr2 with e1 e2
      subst e1 e2
      refine ⟨hr.1, ?_⟩
      rcases k2.2 with ⟨h5, _⟩ | ⟨g2, cap2, cur2, h5, h6, h7, h8, h9, h10, h11⟩
      · cases h5
      · simp only [Value.slice.injEq, Option.some.injEq] at h5
        obtain ⟨e3, _, rfl⟩ := h5
        obtain rfl : g = g2 := by injection e3
        refine .inr ⟨g, cap, cur2, rfl, h6, h7, hg3, hg4, h10, ?_⟩
        have e4 : cur2.toList.take (xs.length * 7) = (cur2.toList.take ((xs.length + 1) * 7)).take (xs.length * 7) := by
          rw [List.take_take, Nat.min_eq_left (by omega)]
        rw [e4, h11, List.take_append_of_le_length (by rw [hr.1]; omega), List.take_of_length_le (by rw [hr.1]; omega)]
    · have holds : ∀ j u, (evals xs)[j]? = some u → w.cell? ((⟨g, 0, none⟩ : Addr).add j) = some u := hr.cells (g := g) rfl
      have hr2 := run_append_grow (P := Tryz.prog) w 28 ty 84 i0 _ und_ents3 hi hz0 ⟨g, 0, none⟩ xs.length cap (evals xs) (by rw [hz1]; exact hr.1) holds ad 1 1 x.cells.toList (by rw [hz1]; exact hl7) hc (by omega) (by omega) (by rw [hz2]; exact growslice_fits (by omega) (by omega))
      rw [hrn] at hr2
      injection hr2 with e1 e2
      subst e1
      refine ⟨hr.1, .inr ⟨g, cap, cur, rfl, hg1, ?_, hg3, hg4, hg5, hg6⟩⟩
      rw [e2, heap_alloc_old w.drew _ (Array.getElem?_eq_some_iff.1 hg2).1]
      exact hg2
theorem rowPre {w w' : World} {B N k : Nat} {v u : Value} {xs ys : List EntD} (hN : N = xs.length) (hK : k = ys.length) (ov : w.ownsRow B 84 7 v N (evals xs)) (ov' : w'.ownsRow B 84 7 v N (evals xs)) (gr : w.grownBy w' v.ownBlock) (ou : w.ownsRow B 84 7 u k (evals ys)) (hk : k ≤ N) : w'.ownsRow B 84 7 u k (evals ys) := by
  by_cases hb : u.ownBlock = v.ownBlock
  · rcases ou.2 with ⟨rfl, h0⟩ | ⟨g3, cap3, cur3, rfl, l2, l3, l4, l5, l6, l7⟩
    · exact ⟨ou.1, .inl ⟨rfl, h0⟩⟩
    rcases ov.2 with ⟨rfl, h0⟩ | ⟨g1, cap1, cur1, rfl, h2, h3, h4, h5, h6, h7⟩
    · cases hb
    rcases ov'.2 with ⟨k1, _⟩ | ⟨g2, cap2, cur2, k1, k2, k3, k4, k5, k6, k7⟩
    · cases k1
    simp only [Value.slice.injEq, Option.some.injEq, Addr.mk.injEq, and_true, true_and] at k1
    obtain ⟨rfl, rfl⟩ := k1
    simp only [Value.ownBlock, Option.some.injEq] at hb
    subst hb
    rw [h3] at l3
    simp only [Option.some.injEq, Obj.cells.injEq, and_true] at l3
    subst l3
    have hsz : cur2.size = cur1.size := by rw [k6, h6]
    refine ⟨ou.1, .inr ⟨_, cap3, cur2, rfl, l2, k3, l4, l5, by rw [hsz, l6], ?_⟩⟩
    rw [← l7]
    have e1 : cur2.toList.take (k * 7) = (cur2.toList.take (N * 7)).take (k * 7) := by rw [List.take_take, Nat.min_eq_left (by omega)]
    have e2 : cur1.toList.take (k * 7) = (cur1.toList.take (N * 7)).take (k * 7) := by rw [List.take_take, Nat.min_eq_left (by omega)]
    rw [e1, e2, k7, h7]
  · exact row_same ou (fun g hg => gr.block g (ou.lt g hg).2 (fun z => hb (hg.trans z)))
theorem wpl_append_entK {w : World} {N : Nat} {v : Value} {xs : List EntD} {ops : Array Oper} {rest : List Oper} {o : Oper} {a : Act} {Q : Exit → Act → World → Prop} {x : EntD} (hgd : o.guard = none) (s y : Operand)
    (ho : o.op = .call { callee := .builtin .append, args := #[s, y], argTypes := #[28, 28] })
    (hs : a.eval s = v) (hr : w.ownsRow N 84 7 v xs.length (evals xs)) (hy : a.eval y = .slice (some ⟨w.heap.size, 0, none⟩) 1 1) (h1 : ∀ u ∈ x.cells.toList, u.oneCell' = true) (hn : (xs.length + 1) * 104 ≤ 140737488355328) (hN : N ≤ w.heap.size)
    (h : ∀ a' n' c' w', n' = (xs ++ [x]).length → w'.ownsRow N 84 7 (.slice a' n' c') (xs ++ [x]).length (evals (xs ++ [x])) → w.grownBy w' v.ownBlock → w'.ownsRow N 84 7 v xs.length (evals xs) → (∀ k, (Value.slice a' n' c').ownBlock = some k → v.ownBlock = some k ∨ w.heap.size ≤ k) → wpList Tryz.prog ops Q rest (a.put o.dst (.slice a' n' c')) w') : wpList Tryz.prog ops Q (o :: rest) a (w.alloc (.cells x.cells 84)) := by
  refine wpList_plain hgd fun K' hK' => ?_
  have hb : Below w.heap.size w (w.alloc (.cells x.cells 84)) := (Below.refl _ _).alloc (Nat.le_refl _) _
  have hc : ∀ j u, x.cells.toList[j]? = some u → (w.alloc (.cells x.cells 84)).cell? ((⟨w.heap.size, 0, none⟩ : Addr).add j) = some u := fun j u hj => by
    have hn := heap_new w (.cells x.cells 84)
    have e3 : ((⟨w.heap.size, 0, none⟩ : Addr).add j) = ⟨w.heap.size, j, none⟩ := by
      unfold Addr.add
      by_cases hj : j = 0 <;> simp [hj]
    rw [e3]
    have e2 : (w.alloc (.cells x.cells 84)).heap[w.heap.size]? = some (.cells x.cells 84 (0, 0)) := hn
    simp only [World.cell?, e2]
    simpa using hj
  obtain ⟨v', w', hrn, h1', h2, h3, h4⟩ := appendKeepE (ty := o.type) (row_same hr (fun k hk => hb.block k (hr.lt k hk).2)) ⟨w.heap.size, 0, none⟩ hc h1 hn (Nat.le_trans hN hb.size)
  obtain ⟨a', c', rfl⟩ := rows_form3 h1'
  unfold Oper.wp execOp
  rw [ho]
  simp only [resolve, invoke, builtin, Sem.run_bind, Sem.run_pure, Result.andThen_ok, List.map_toArray, List.map_cons, List.map_nil, hs, hy, hrn]
  refine hK' _ _ (h a' _ c' w' rfl h1' ((World.grownBy_alloc w _ _).trans h2) h3 (fun k hk => ?_))
  rcases h4 k hk with z | z
  · exact .inl z
  · exact .inr (by rw [z, World.size_alloc]; omega)
end Go.Proofs.YthhkpkfpifllkaaGreat
