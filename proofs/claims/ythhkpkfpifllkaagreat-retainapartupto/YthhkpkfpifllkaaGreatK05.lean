import Derived.Test.YthhkpkfpifllkaaGreatK04
namespace Go.Proofs.YthhkpkfpifllkaaGreat
open Go.RowKit
set_option linter.unusedVariables false
variable {W0 : Base} {W : World} {wb g rb : Nat} {fv : Value} {fs : List FamD} {clock : Int} {T : World → (Nat → Prop) → List Vd → Prop} {O : Nat → Prop} {s : SpD} {vs : List Vd} {e : EntD}

theorem own_len3 {w : World} {B m c n : Nat} {a : Option Addr} {xs : List Nat} (h : Own w B (.slice a m c) n xs) : m = n := by
  rcases h.2.2 with ⟨h1, h2⟩ | ⟨g, cap, cur, h1, _⟩
  · simp only [Value.slice.injEq] at h1; omega
  · simp only [Value.slice.injEq] at h1; exact h1.2.1
theorem WBx.setAll {w : World} {b : Nat} {fv tv : Value} {clock : Int} {s : SpD} (h : WBx w b fv clock tv s) (e : EntD) : WBx ((((((((w.setCell ⟨b, 3, none⟩ (.bool true)).setCell ⟨b, 4, none⟩ e.vr).setCell ⟨b, 5, none⟩ (.int .i64 e.fam)).setCell ⟨b, 6, none⟩ e.vq).setCell ⟨b, 7, none⟩ (.int .i64 e.ts)).setCell ⟨b, 8, none⟩ (.int .i64 e.seq)).setCell ⟨b, 9, none⟩ (.int .i64 e.kind)).setCell ⟨b, 10, none⟩ e.vv) b fv clock tv { s with begun := true, last := e } := by
  have h1 := h.set (i := 3) (v := .bool true) (s' := { s with begun := true }) rfl
  have h2 := h1.set (i := 4) (v := e.vr) (s' := { s with begun := true, last := { s.last with vr := e.vr } }) rfl
  have h3 := h2.set (i := 5) (v := .int .i64 e.fam) (s' := { s with begun := true, last := { s.last with vr := e.vr, fam := e.fam } }) rfl
  have h4 := h3.set (i := 6) (v := e.vq) (s' := { s with begun := true, last := { s.last with vr := e.vr, fam := e.fam, vq := e.vq } }) rfl
  have h5 := h4.set (i := 7) (v := .int .i64 e.ts) (s' := { s with begun := true, last := { s.last with vr := e.vr, fam := e.fam, vq := e.vq, ts := e.ts } }) rfl
  have h6 := h5.set (i := 8) (v := .int .i64 e.seq) (s' := { s with begun := true, last := { s.last with vr := e.vr, fam := e.fam, vq := e.vq, ts := e.ts, seq := e.seq } }) rfl
  have h7 := h6.set (i := 9) (v := .int .i64 e.kind) (s' := { s with begun := true, last := { s.last with vr := e.vr, fam := e.fam, vq := e.vq, ts := e.ts, seq := e.seq, kind := e.kind } }) rfl
  exact h7.set (i := 10) (v := e.vv) (s' := { s with begun := true, last := e }) rfl
theorem g_trans {a b c : World} {o : Option Nat} (h : a.grownBy b o) (k : b.grownBy c o) : a.grownBy c o := ⟨k.os.trans h.os, k.tape.trans h.tape, k.output.trans h.output, Nat.le_trans h.size k.size, fun i hi hne => (k.block i (Nat.lt_of_lt_of_le hi h.size) hne).trans (h.block i hi hne)⟩
theorem grown8 (w : World) (b i1 i2 i3 i4 i5 i6 i7 i8 : Nat) (v1 v2 v3 v4 v5 v6 v7 v8 : Value) : w.grownBy ((((((((w.setCell ⟨b, i1, none⟩ v1).setCell ⟨b, i2, none⟩ v2).setCell ⟨b, i3, none⟩ v3).setCell ⟨b, i4, none⟩ v4).setCell ⟨b, i5, none⟩ v5).setCell ⟨b, i6, none⟩ v6).setCell ⟨b, i7, none⟩ v7).setCell ⟨b, i8, none⟩ v8) (some b) :=
  g_trans (g_trans (g_trans (g_trans (g_trans (g_trans (g_trans (grown1 _ b i1 v1) (grown1 _ b i2 v2)) (grown1 _ b i3 v3)) (grown1 _ b i4 v4)) (grown1 _ b i5 v5)) (grown1 _ b i6 v6)) (grown1 _ b i7 v7)) (grown1 _ b i8 v8)
theorem own_blk (a : Option Addr) (n m c d : Nat) : (Value.slice a n c).ownBlock = (Value.slice a m d).ownBlock := by cases a <;> rfl
theorem ebox_set {w : World} {q b i : Nat} {v : Value} {e : EntD} (h : EBox w q e) (hne : q ≠ b) : EBox (w.setCell ⟨b, i, none⟩ v) q e := (Below.heap_setCell _ _ _ _ (fun z => hne (by rw [z]))).trans h
theorem drew_heap (w : World) (b : Nat) : w.drew.heap[b]? = w.heap[b]? := rfl

set_option maxRecDepth 100000 in
set_option maxHeartbeats 4000000 in
theorem remember_any (ht : Teller g rb T) (h : Wk W0 wb g rb fv fs clock T W O s vs) (he : ∀ Z, Fr0 W0 wb rb Z → EntD.Ok Z e) (hf : Fit fs.length e.dat) :
    Calls Tryz.prog 124 #[.pointer (some ⟨wb, 0, none⟩), .agg e.cells] W fun r W' => r = .returned (.tuple #[]) ∧ ∃ s', Wk W0 wb g rb fv fs clock T W' O s' vs ∧ s'.dat = rememberS s.dat e.dat := by
  have heW := he W h.fr
  obtain ⟨vr, fam, vq, ts, sq, kd, vv, row, qual, val⟩ := e
  obtain ⟨ar, nr, cr, er⟩ := rd_slice heW.1
  obtain ⟨aq, nq, cq, eq⟩ := rd_slice heW.2.1
  obtain ⟨av, nv, cv, ev⟩ := rd_slice heW.2.2
  simp only at er eq ev
  subst er eq ev
  have hok := h.ok
  obtain ⟨aL, nL, cL, eL⟩ := rd_slice hok.1
  obtain ⟨aQ, nQ, cQ, eQ⟩ := rd_slice hok.2.1
  obtain ⟨aV, nV, cV, eV⟩ := rd_slice hok.2.2
  have HL : Hid (nL ≤ cL ∧ nQ ≤ cQ ∧ nV ≤ cV ∧ cL ≤ maxLen ∧ cQ ≤ maxLen ∧ cV ≤ maxLen) := by
    obtain ⟨_, a1, c1, k1, k2, k3, _⟩ := hok.1
    obtain ⟨_, a2, c2, j1, j2, j3, _⟩ := hok.2.1
    obtain ⟨_, a3, c3, i1, i2, i3, _⟩ := hok.2.2
    rw [eL] at k1; rw [eQ] at j1; rw [eV] at i1
    simp only [Value.slice.injEq] at k1 j1 i1
    obtain ⟨_, rfl, rfl⟩ := k1
    obtain ⟨_, rfl, rfl⟩ := j1
    obtain ⟨_, rfl, rfl⟩ := i1
    exact ⟨k2, j2, i2, k3, j3, i3⟩
  have A := (Below.refl W.heap.size W).alloc (Nat.le_refl _) (.cells #[.slice ar nr cr, .int .i64 fam, .slice aq nq cq, .int .i64 ts, .int .i64 sq, .int .i64 kd, .slice av nv cv] 84)
  have eb := EBox.new W (⟨.slice ar nr cr, fam, .slice aq nq cq, ts, sq, kd, .slice av nv cv, row, qual, val⟩ : EntD)
  have h1 := h.later ht A
  obtain ⟨qb, hqb⟩ : ∃ q, q = W.heap.size := ⟨_, rfl⟩
  have hqb' := hqb.symm
  unfold EntD.cells at eb ⊢
  simp only at eb
  obtain ⟨X, hX⟩ : ∃ X, X = W.alloc (.cells #[.slice ar nr cr, .int .i64 fam, .slice aq nq cq, .int .i64 ts, .int .i64 sq, .int .i64 kd, .slice av nv cv] 84) := ⟨_, rfl⟩
  rw [← hX] at eb h1
  have HX := Lib.hid hX
  have HT := Lib.hid ht
  have HF := Lib.hid hf
  have HE := Lib.hid he
  rw [← hqb] at eb
  have H1 := Lib.hid h1
  have HEb := Lib.hid eb
  have hqW : W0.heap.size ≤ qb ∧ ¬ O qb ∧ qb ≠ wb := by rw [hqb]; exact ⟨h.fr.1, h.fresh ht (Nat.le_refl _), by have := h.wlow; have := h.fr.1; omega⟩
  have HqW := Lib.hid hqW
  have HLl : Hid (∀ k, s.last.vr.ownBlock = some k ∨ s.last.vq.ownBlock = some k ∨ s.last.vv.ownBlock = some k → k ≠ qb) := fun k hk => by have := (h.lastlt k hk).2; omega
  have HEL := Lib.hid (And.intro eL (And.intro eQ eV))
  have c4 := h1.box.last7.1
  have c6 := h1.box.last7.2.2.1
  have c10 := h1.box.last7.2.2.2.2.2.2
  rw [eL] at c4
  rw [eQ] at c6
  rw [eV] at c10
  obtain ⟨n1, n2, n3, m1, m2, m3⟩ := HL.out
  unfold maxLen at m1 m2 m3
  clear ht h he hf A hX h1 eb hqb heW hok hqW eL eQ eV HL
  go_enter Tryz.func124, Tryz.ntmps124
  go_upto_region 1 with fail
  rw [← HX.out]
  (try rw [hqb'])
  clear hqb' HX
  go_cut [4, 5, 6] (fun p4 p5 p6 wx => p4 = .slice aL 0 cL ∧ p5 = .slice aQ 0 cQ ∧ p6 = .slice aV 0 cV ∧ Hid (Below X.heap.size X wx))
  case first =>
    go_quiet (fail)
    go_wp2_with fail
    go_meet
    exact ⟨rfl, rfl, rfl, below_rfl rfl rfl rfl rfl⟩
  case rest =>
  obtain ⟨rfl, rfl, rfl, HD1⟩ := hcut
  obtain ⟨X1, hX1⟩ : ∃ X1, X1 = wc := ⟨_, rfl⟩
  subst hX1
  clear c4 c6 c10
  have K1 := H1.out.later HT.out HD1.out
  have HK1 := Lib.hid K1
  have HEb1 := Lib.hid (HEb.out.later HD1.out)
  clear K1 H1 HEb HD1
  have c3 := HK1.out.box.c3
  obtain ⟨c4, c5, c6, c7, c8, c9, c10⟩ := HK1.out.box.last7
  obtain ⟨e1, e2, e3⟩ := HEL.out
  rw [e1] at c4
  rw [e2] at c6
  rw [e3] at c10
  clear e1 e2 e3
  have f3 := HK1.out.box.fz 3
  have f4 := HK1.out.box.fz 4
  have f5 := HK1.out.box.fz 5
  have f6 := HK1.out.box.fz 6
  have f7 := HK1.out.box.fz 7
  have f8 := HK1.out.box.fz 8
  have f9 := HK1.out.box.fz 9
  have f10 := HK1.out.box.fz 10
  have y := HEb1.out.cells7
  simp only at y
  obtain ⟨y0, y1, y2, y3, y4, y5, y6⟩ := y
  have hne : wb ≠ qb := HqW.out.2.2.symm
  have hne' : qb ≠ wb := HqW.out.2.2
  go_upto_region 2 with fail
  go_region
  have hG : X1.grownBy (((((((((X1.setCell ⟨wb, 3, none⟩ (.bool true)).setCell ⟨wb, 4, none⟩ (.slice ar nr cr)).setCell ⟨wb, 5, none⟩ (.int .i64 fam)).setCell ⟨wb, 6, none⟩ (.slice aq nq cq)).setCell ⟨wb, 7, none⟩ (.int .i64 ts)).setCell ⟨wb, 8, none⟩ (.int .i64 sq)).setCell ⟨wb, 9, none⟩ (.int .i64 kd)).setCell ⟨wb, 10, none⟩ (.slice av nv cv)).drew) (some wb) := (grown8 _ _ _ _ _ _ _ _ _ _ _ _ _ _ _ _ _ _).drew
  have B2 : WBx (((((((((X1.setCell ⟨wb, 3, none⟩ (.bool true)).setCell ⟨wb, 4, none⟩ (.slice ar nr cr)).setCell ⟨wb, 5, none⟩ (.int .i64 fam)).setCell ⟨wb, 6, none⟩ (.slice aq nq cq)).setCell ⟨wb, 7, none⟩ (.int .i64 ts)).setCell ⟨wb, 8, none⟩ (.int .i64 sq)).setCell ⟨wb, 9, none⟩ (.int .i64 kd)).setCell ⟨wb, 10, none⟩ (.slice av nv cv)).drew) wb fv clock (.func (.func g) #[.pointer (some ⟨rb, 0, none⟩)] #[]) { s with begun := true, last := (⟨.slice ar nr cr, fam, .slice aq nq cq, ts, sq, kd, .slice av nv cv, row, qual, val⟩ : EntD) } := (HK1.out.box.setAll (⟨.slice ar nr cr, fam, .slice aq nq cq, ts, sq, kd, .slice av nv cv, row, qual, val⟩ : EntD)).keep (drew_heap _ _)
  have E2 : EBox (((((((((X1.setCell ⟨wb, 3, none⟩ (.bool true)).setCell ⟨wb, 4, none⟩ (.slice ar nr cr)).setCell ⟨wb, 5, none⟩ (.int .i64 fam)).setCell ⟨wb, 6, none⟩ (.slice aq nq cq)).setCell ⟨wb, 7, none⟩ (.int .i64 ts)).setCell ⟨wb, 8, none⟩ (.int .i64 sq)).setCell ⟨wb, 9, none⟩ (.int .i64 kd)).setCell ⟨wb, 10, none⟩ (.slice av nv cv)).drew) qb (⟨.slice ar nr cr, fam, .slice aq nq cq, ts, sq, kd, .slice av nv cv, row, qual, val⟩ : EntD) := (hG.block qb (Array.getElem?_eq_some_iff.1 HEb1.out).1 (fun z => hne' (by cases z; rfl))).trans HEb1.out
  have hlo : ∀ k, s.last.vr.ownBlock = some k ∨ s.last.vq.ownBlock = some k ∨ s.last.vv.ownBlock = some k → ¬ O k ∧ k ≠ qb := fun k hk => ⟨HK1.out.apO k hk, HLl.out k hk⟩
  obtain ⟨e1, e2, e3⟩ := HEL.out
  have o1 := HK1.out.own.1
  have o2 := HK1.out.own.2.1
  have o3 := HK1.out.own.2.2
  have ap := HK1.out.apart
  rw [e1] at o1 ap hlo
  rw [e2] at o2 ap hlo
  rw [e3] at o3 ap hlo
  have hw0 : wb < W0.heap.size ∧ ¬ W0.L wb := ⟨HK1.out.wlow.1, HK1.out.wlow.2.2⟩
  have hlL := HK1.out.lastL
  rw [e1, e2, e3] at hlL
  have hOw := HK1.out.notO
  have en1 := own_len3 o1
  have en2 := own_len3 o2
  have en3 := own_len3 o3
  rw [← en1] at o1
  rw [← en2] at o2
  rw [← en3] at o3
  have F1 : Bf W0 wb rb T qb X1 O vs (.slice aL 0 cL) (.slice aQ 0 cQ) (.slice aV 0 cV) [] [] [] := ⟨HK1.out.tell, o1.cut0, o2.cut0, o3.cut0, fun k hk => hlL k (by rw [own_blk aL nL 0 cL cL, own_blk aQ nQ 0 cQ cQ, own_blk aV nV 0 cV cV]; exact hk), fun k hk => by rw [own_blk aQ 0 nQ cQ cQ]; exact (ap.1 k (by rw [own_blk aL nL 0 cL cL]; exact hk)).1, fun k hk => by rw [own_blk aV 0 nV cV cV]; exact (ap.1 k (by rw [own_blk aL nL 0 cL cL]; exact hk)).2, fun k hk => by rw [own_blk aV 0 nV cV cV]; exact ap.2 k (by rw [own_blk aQ nQ 0 cQ cQ]; exact hk), fun k hk => hlo k (by rw [own_blk aL nL 0 cL cL, own_blk aQ nQ 0 cQ cQ, own_blk aV nV 0 cV cV]; exact hk), (Array.getElem?_eq_some_iff.1 HEb1.out).1, HK1.out.os, HK1.out.tape, HK1.out.output, HK1.out.fr⟩
  have F2 := F1.put HT.out hG hw0 hOw
  obtain ⟨X2, hX2⟩ : ∃ X2, X2 = ((((((((X1.setCell ⟨wb, 3, none⟩ (.bool true)).setCell ⟨wb, 4, none⟩ (.slice ar nr cr)).setCell ⟨wb, 5, none⟩ (.int .i64 fam)).setCell ⟨wb, 6, none⟩ (.slice aq nq cq)).setCell ⟨wb, 7, none⟩ (.int .i64 ts)).setCell ⟨wb, 8, none⟩ (.int .i64 sq)).setCell ⟨wb, 9, none⟩ (.int .i64 kd)).setCell ⟨wb, 10, none⟩ (.slice av nv cv)).drew := ⟨_, rfl⟩
  rw [← hX2] at B2 E2 F2
  have HX2 := Lib.hid hX2
  have HB2 := Lib.hid B2
  have HE2 := Lib.hid E2
  have HF2 := Lib.hid F2
  have Hw := Lib.hid (And.intro hw0 hOw)
  clear hX2 hG B2 E2 F2 F1 hlo hlL o1 o2 o3 ap e1 e2 e3 hw0 hOw en1 en2 en3
  clear c3 c4 c5 c6 c7 c8 c9 c10 f3 f4 f5 f6 f7 f8 f9 f10 y0 y1 y2 y3 y4 y5 y6
  go_upto_region 3 with fail
  rw [← HX2.out]
  clear HX2
  have D3 : Below X2.heap.size X2 X2.drew := (Below.refl _ _).drew
  have HF3 := Lib.hid (HF2.out.later HT.out D3 Hw.out.1 Hw.out.2)
  have HE3 := Lib.hid (HE2.out.later D3)
  have HB3 := Lib.hid (HB2.out.later D3)
  have z0 := HE3.out.vr
  have z2 := HE3.out.vq
  have z6 := HE3.out.vv
  simp only at z0 z2 z6
  have HS3 : Hid (∀ Z, EBox Z qb (⟨.slice ar nr cr, fam, .slice aq nq cq, ts, sq, kd, .slice av nv cv, row, qual, val⟩ : EntD) → Z.cell? ⟨qb, 0, none⟩ = some (.slice ar nr cr) ∧ Z.cell? ⟨qb, 2, none⟩ = some (.slice aq nq cq) ∧ Z.cell? ⟨qb, 6, none⟩ = some (.slice av nv cv)) := fun Z h => ⟨h.vr, h.vq, h.vv⟩
  have HEr : Hid (∀ Z, Fr0 W0 wb rb Z → Rd Z (.slice ar nr cr) row ∧ Rd Z (.slice aq nq cq) qual ∧ Rd Z (.slice av nv cv) val) := HE.out
  have hL : row.length ≤ 256 ∧ qual.length ≤ 256 ∧ val.length ≤ 4096 := ⟨HF.out.row, HF.out.qual, HF.out.val⟩
  obtain ⟨hL1, hL2, hL3⟩ := hL
  have s1 : ([] ++ row).length = 0 + row.length := by simp
  have s2 : ([] ++ qual).length = 0 + qual.length := by simp
  have s3 : ([] ++ val).length = 0 + val.length := by simp
  have HFl := Lib.hid (And.intro s1 (And.intro s2 s3))
  clear s1 s2 s3
  go_region_held3 (fun Z => Z.cell? ⟨qb, 0, none⟩ = some (.slice ar nr cr) ∧ Z.cell? ⟨qb, 2, none⟩ = some (.slice aq nq cq) ∧ Z.cell? ⟨qb, 6, none⟩ = some (.slice av nv cv)) (first | exact HS3.out _ (ebox_set (ebox_set (ebox_set E6 hne') hne') hne') | exact HS3.out _ (ebox_set (ebox_set E6 hne') hne') | exact HS3.out _ (ebox_set E6 hne') | exact HS3.out _ E6 | exact HS3.out _ E5 | exact HS3.out _ E4 | exact ⟨z0, z2, z6⟩)
    (first
      | (refine step_append_rd (n := 0) (xs := []) rfl (.tmp 40) (.tmp 42) rfl rfl HF3.out.o1 rfl (HEr.out _ HF3.out.fr).1 (by omega) (Nat.le_trans HK1.out.lo HF3.out.fr.1) ?_; intro a4 c4 w4 ow4 gr4 lo4; have F4 := HF3.out.app1 HT.out (by rw [HFl.out.1]; exact ow4) gr4 lo4; have E4 : EBox w4 qb (⟨.slice ar nr cr, fam, .slice aq nq cq, ts, sq, kd, .slice av nv cv, row, qual, val⟩ : EntD) := (gr4.block qb (Array.getElem?_eq_some_iff.1 HE3.out).1 (fun z => (HF3.out.apO qb (.inl z.symm)).2 rfl)).trans HE3.out; have B4 := HB3.out.keep (gr4.block wb HB3.out.lt (fun z => by have q := HF3.out.lL wb (.inl z.symm); have := Hw.out.1; rcases q with q | q; exact this.2 q; omega)))
      | (refine step_append_rd (n := 0) (xs := []) rfl (.tmp 44) (.tmp 46) rfl rfl F4.o2 rfl (HEr.out _ F4.fr).2.1 (by omega) (Nat.le_trans HK1.out.lo F4.fr.1) ?_; intro a5 c5 w5 ow5 gr5 lo5; have F5 := F4.turn.app1 HT.out (by rw [HFl.out.2.1]; exact ow5) gr5 lo5; have E5 : EBox w5 qb (⟨.slice ar nr cr, fam, .slice aq nq cq, ts, sq, kd, .slice av nv cv, row, qual, val⟩ : EntD) := (gr5.block qb (Array.getElem?_eq_some_iff.1 E4).1 (fun z => (F4.apO qb (.inr (.inl z.symm))).2 rfl)).trans E4; have B5 := B4.keep (gr5.block wb B4.lt (fun z => by have q := F4.lL wb (.inr (.inl z.symm)); have := Hw.out.1; rcases q with q | q; exact this.2 q; omega)))
      | (refine step_append_rd (n := 0) (xs := []) rfl (.tmp 48) (.tmp 50) rfl rfl F5.o2 rfl (HEr.out _ F5.fr).2.2 (by omega) (Nat.le_trans HK1.out.lo F5.fr.1) ?_; intro a6 c6 w6 ow6 gr6 lo6; have F6 := F5.turn.app1 HT.out (by rw [HFl.out.2.2]; exact ow6) gr6 lo6; have E6 : EBox w6 qb (⟨.slice ar nr cr, fam, .slice aq nq cq, ts, sq, kd, .slice av nv cv, row, qual, val⟩ : EntD) := (gr6.block qb (Array.getElem?_eq_some_iff.1 E5).1 (fun z => (F5.apO qb (.inr (.inl z.symm))).2 rfl)).trans E5; have B6 := B5.keep (gr6.block wb B5.lt (fun z => by have q := F5.lL wb (.inr (.inl z.symm)); have := Hw.out.1; rcases q with q | q; exact this.2 q; omega)); have y4 := B6.last7.1; have y6 := B6.last7.2.2.1; have y10 := B6.last7.2.2.2.2.2.2; have g4 := B6.fz 4; have g6 := B6.fz 6; have g10 := B6.fz 10))
  have hG : w6.grownBy (((w6.setCell ⟨wb, 4, none⟩ (.slice a4 row.length c4)).setCell ⟨wb, 6, none⟩ (.slice a5 qual.length c5)).setCell ⟨wb, 10, none⟩ (.slice a6 val.length c6)) (some wb) := g_trans (g_trans (grown1 _ _ _ _) (grown1 _ _ _ _)) (grown1 _ _ _ _)
  have F7 := F6.turn.put HT.out hG Hw.out.1 Hw.out.2
  have b1 := B6.set (i := 4) (v := .slice a4 row.length c4) (s' := { s with begun := true, last := { (⟨.slice ar nr cr, fam, .slice aq nq cq, ts, sq, kd, .slice av nv cv, row, qual, val⟩ : EntD) with vr := .slice a4 row.length c4 } }) rfl
  have b2 := b1.set (i := 6) (v := .slice a5 qual.length c5) (s' := { s with begun := true, last := { (⟨.slice ar nr cr, fam, .slice aq nq cq, ts, sq, kd, .slice av nv cv, row, qual, val⟩ : EntD) with vr := .slice a4 row.length c4, vq := .slice a5 qual.length c5 } }) rfl
  have b3 := b2.set (i := 10) (v := .slice a6 val.length c6) (s' := { s with begun := true, last := ⟨.slice a4 row.length c4, fam, .slice a5 qual.length c5, ts, sq, kd, .slice a6 val.length c6, row, qual, val⟩ }) rfl
  have HFin := Lib.hid (And.intro F7 b3)
  obtain ⟨V, hV⟩ : ∃ V, V = ((w6.setCell ⟨wb, 4, none⟩ (.slice a4 row.length c4)).setCell ⟨wb, 6, none⟩ (.slice a5 qual.length c5)).setCell ⟨wb, 10, none⟩ (.slice a6 val.length c6) := ⟨_, rfl⟩
  rw [← hV] at HFin
  have HV := Lib.hid hV
  clear hV hG F7 b1 b2 b3 F4 F5 F6 E4 E5 E6 B4 B5 B6 y4 y6 y10 g4 g6 g10 ow4 ow5 ow6 gr4 gr5 gr6 lo4 lo5 lo6 z0 z2 z6
  go_wp2
  go_end0
  rw [← HV.out]
  obtain ⟨F, B⟩ := HFin.out
  simp only [List.nil_append, Nat.zero_add] at F
  have hok := HEr.out _ F.fr
  exact ⟨rfl, _, ⟨B, HK1.out.fam, F.tell, ⟨F.o1, F.o2, F.o3⟩, F.lL, ⟨fun k hk => ⟨F.a12 k hk, F.a13 k hk⟩, F.a23⟩, fun k hk => (F.apO k hk).1, HK1.out.low, HK1.out.lo, HK1.out.wlow, HK1.out.rank, HK1.out.mask, ⟨hok.1.1, hok.2.1.1, hok.2.2.1⟩, ⟨hL1, hL2, hL3⟩, fun _ => HF.out, F.os, F.tape, F.output, F.fr⟩, rfl⟩
end Go.Proofs.YthhkpkfpifllkaaGreat

namespace Go.Proofs.YthhkpkfpifllkaaGreat
open Go.RowKit
set_option linter.unusedVariables false

def TE (T : World → (Nat → Prop) → List Vd → Prop) (q : Nat) (o : Obj) : World → (Nat → Prop) → List Vd → Prop := fun W O vs => W.heap[q]? = some o ∧ O q ∧ T W (fun i => O i ∧ i ≠ q) vs
section
variable {W0 : Base} {W : World} {wb g rb q : Nat} {fv : Value} {fs : List FamD} {clock : Int} {T : World → (Nat → Prop) → List Vd → Prop} {O : Nat → Prop} {s : SpD} {vs : List Vd} {o : Obj}
theorem Teller.ext (ht : Teller g rb T) : Teller g rb (TE T q o) := by
  refine ⟨ht.enters, fun h hk hs => ⟨(hk q h.2.1).trans h.1, h.2.1, ht.keep h.2.2 (fun i hi => hk i hi.1) hs⟩, fun {W O vs i} h hi => ?_, fun {W O vs e} ft rk {n} h he hf hv => ?_⟩
  · by_cases e : i = q
    · subst e; exact (Array.getElem?_eq_some_iff.1 h.1).1
    · exact ht.lt h.2.2 ⟨hi, e⟩
  · have hq := (Array.getElem?_eq_some_iff.1 h.1).1
    refine (ht.say ft rk h.2.2 he hf hv).mono ?_
    rintro r W' ⟨rfl, O1, t1, f1⟩
    have n1 : ¬ O1 q := fun k => by
      rcases f1.own q k with k1 | k1
      · exact k1.2 rfl
      · omega
    have e1 : (fun i => ((O1 i ∧ i ≠ q) ∨ i = q) ∧ i ≠ q) = O1 := by
      funext i
      refine propext ⟨fun k => ?_, fun k => ⟨.inl ⟨k, fun e => n1 (by rw [← e]; exact k)⟩, fun e => n1 (by rw [← e]; exact k)⟩⟩
      rcases k with ⟨k | k, k2⟩
      · exact k.1
      · exact absurd k k2
    refine ⟨rfl, fun i => (O1 i ∧ i ≠ q) ∨ i = q, ⟨(f1.block q hq (fun k => k.2 rfl)).trans h.1, .inr rfl, ?_⟩, ⟨f1.os, f1.tape, f1.output, f1.size, fun i hi hn => f1.block i hi (fun k => hn k.1), fun i k => ?_⟩⟩
    · rw [e1]; exact t1
    · rcases k with k | k
      · rcases f1.own i k.1 with k1 | k1
        · exact .inl k1.1
        · exact .inr k1
      · subst k; exact .inl h.2.1
theorem Wk.ext (h : Wk W0 wb g rb fv fs clock T W O s vs) (hq : W.heap[q]? = some o) (h1 : ¬ O q) (h2 : W0.heap.size ≤ q) (h3 : ∀ k, s.last.vr.ownBlock = some k ∨ s.last.vq.ownBlock = some k ∨ s.last.vv.ownBlock = some k → k ≠ q) : Wk W0 wb g rb fv fs clock (TE T q o) W (fun i => O i ∨ i = q) s vs := by
  have e1 : (fun i => (O i ∨ i = q) ∧ i ≠ q) = O := by
    funext i
    refine propext ⟨fun k => ?_, fun k => ⟨.inl k, fun e => h1 (by rw [← e]; exact k)⟩⟩
    rcases k with ⟨k | k, k2⟩
    · exact k
    · exact absurd k k2
  refine ⟨h.box, h.fam, ⟨hq, .inr rfl, by rw [e1]; exact h.tell⟩, h.own, h.lastL, h.apart, fun k hk e => ?_, fun i k => ?_, h.lo, h.wlow, h.rank, h.mask, h.bys, h.few, h.wait, h.os, h.tape, h.output, h.fr⟩
  · rcases e with e | e
    · exact h.apO k hk e
    · exact h3 k hk e
  · rcases k with k | k
    · exact h.low i k
    · subst k; exact .inr h2
theorem Wk.unext (h : Wk W0 wb g rb fv fs clock (TE T q o) W O s vs) : Wk W0 wb g rb fv fs clock T W (fun i => O i ∧ i ≠ q) s vs :=
  ⟨h.box, h.fam, h.tell.2.2, h.own, h.lastL, h.apart, fun k hk e => h.apO k hk e.1, fun i k => h.low i k.1, h.lo, h.wlow, h.rank, h.mask, h.bys, h.few, h.wait, h.os, h.tape, h.output, h.fr⟩
theorem decide_rank (fs : List (Int × Int)) (clock : Int) (s : Sp) (e : En) : (decideS fs clock s e).2.rank ≤ s.rank + 1 := by
  unfold decideS
  repeat' split
  all_goals simp only
  all_goals omega
theorem resolve_rank (fs : List (Int × Int)) (clock : Int) (s : Sp) (k : Int) : (resolveS fs clock s k).2.rank ≤ s.rank + (resolveS fs clock s k).1.length ∧ (resolveS fs clock s k).1.length ≤ 1 := by
  unfold resolveS
  split
  · have := decide_rank fs clock { s with waiting := false } { s.last with seq := s.seq, kind := k }
    simp only at this
    simp only [List.length_cons, List.length_nil]
    exact ⟨by omega, by omega⟩
  · simp
theorem left_rank (s : Sp) (f c : Bool) (h : 0 ≤ s.rank) : (leftS s f c).rank ≤ s.rank ∧ 0 ≤ (leftS s f c).rank := by
  unfold leftS
  cases f <;> cases c <;> simp <;> omega
theorem decide_rank0 (fs : List (Int × Int)) (clock : Int) (s : Sp) (e : En) (h : 0 ≤ s.rank) : 0 ≤ (decideS fs clock s e).2.rank := by
  unfold decideS
  repeat' split
  all_goals simp only
  all_goals omega
theorem resolve_rank0 (fs : List (Int × Int)) (clock : Int) (s : Sp) (k : Int) (h : 0 ≤ s.rank) : 0 ≤ (resolveS fs clock s k).2.rank := by
  unfold resolveS
  split
  · exact decide_rank0 _ _ _ _ h
  · exact h
theorem enter_rank (fs : List (Int × Int)) (clock : Int) (s : Sp) (e : En) (h : 0 ≤ s.rank) : (enterS fs clock s e).2.rank ≤ s.rank + (enterS fs clock s e).1.length ∧ (enterS fs clock s e).1.length ≤ 1 := by
  unfold enterS
  split
  · simp
  · have h1 := resolve_rank fs clock s 3
    have h2 := left_rank (resolveS fs clock s 3).2 (sameFam s e) (sameCol s e) (resolve_rank0 _ _ _ _ h)
    simp only
    exact ⟨by omega, h1.2⟩
end
end Go.Proofs.YthhkpkfpifllkaaGreat

namespace Go.Proofs.YthhkpkfpifllkaaGreat
open Go.RowKit
set_option linter.unusedVariables false
variable {W0 : Base} {W : World} {wb g rb : Nat} {fv : Value} {fs : List FamD} {clock : Int} {T : World → (Nat → Prop) → List Vd → Prop} {O : Nat → Prop} {s : SpD} {vs : List Vd} {e : EntD}

set_option maxRecDepth 100000 in
set_option maxHeartbeats 4000000 in
theorem step_any (ht0 : Teller g rb T) (h : Wk W0 wb g rb fv fs clock T W O s vs) (he : ∀ Z, Fr0 W0 wb rb Z → EntD.Ok Z e) (hf : Fit fs.length e.dat) (hv : vs.length + 4 < 1353245080339) (hfs : ∀ f ∈ fs, 0 ≤ f.tl ∧ f.tl ≤ 1099511627776) (hr : s.rank ≤ vs.length) (hwb : s.waiting = true → s.begun = true) :
    Calls Tryz.prog 95 #[.pointer (some ⟨wb, 0, none⟩), .agg e.cells] W fun r W' => r = .returned (.tuple #[]) ∧ ∃ O' s', Wk W0 wb g rb fv fs clock T W' O' s' (vs ++ (stepS (mt fs) clock s.dat e.dat).1) ∧ s'.dat = (stepS (mt fs) clock s.dat e.dat).2 := by
  have A := (Below.refl W.heap.size W).alloc (Nat.le_refl _) (.cells e.cells 84)
  have eb := EBox.new W e
  have h1 := h.later ht0 A
  have hfr := h.fresh ht0 (Nat.le_refl W.heap.size)
  have hlt := h.lastlt
  obtain ⟨qb, hqb⟩ : ∃ q, q = W.heap.size := ⟨_, rfl⟩
  have hqb' := hqb.symm
  rw [← hqb] at eb hfr
  have K0 := h1.ext eb hfr (by rw [hqb]; exact h.fr.1) (fun k hk => by have := (hlt k hk).2; omega)
  have ht : Teller g rb (TE T qb (.cells e.cells 84 (0, 0))) := ht0.ext
  obtain ⟨X, hX⟩ : ∃ X, X = W.alloc (.cells e.cells 84) := ⟨_, rfl⟩
  rw [← hX] at K0
  have HX := Lib.hid hX
  have HT := Lib.hid ht
  have HF := Lib.hid hf
  have HE := Lib.hid he
  have HFs := Lib.hid hfs
  have HK0 := Lib.hid K0
  have rk0 : 0 ≤ s.dat.rank := h.rank.1
  have eg := ht0.enters
  have HRk := Lib.hid (enter_rank (mt fs) clock s.dat e.dat rk0)
  have HCE : Hid (∀ Z O' s' us, Wk W0 wb g rb fv fs clock (TE T qb (.cells e.cells 84 (0, 0))) Z O' s' us → Z.cell? ⟨qb, 0, none⟩ = some e.vr ∧ Z.cell? ⟨qb, 1, none⟩ = some (.int .i64 e.fam) ∧ Z.cell? ⟨qb, 2, none⟩ = some e.vq ∧ Z.cell? ⟨qb, 3, none⟩ = some (.int .i64 e.ts) ∧ Z.cell? ⟨qb, 4, none⟩ = some (.int .i64 e.seq) ∧ Z.cell? ⟨qb, 5, none⟩ = some (.int .i64 e.kind) ∧ Z.cell? ⟨qb, 6, none⟩ = some e.vv) := fun Z O' s' us k => EBox.cells7 k.tell.1
  obtain ⟨x0, x1, x2, x3, x4, x5, x6⟩ := HCE.out _ _ _ _ K0
  have HC1 := Lib.hid (enter_any HT.out K0 (HE.out _ K0.fr) (by omega) HFs.out hr hwb)
  have HWb := Lib.hid hwb
  clear hwb
  obtain ⟨gB, hgB⟩ : ∃ b, b = sameGrp s.dat e.dat := ⟨_, rfl⟩
  rw [← hgB] at HC1
  have HgB := Lib.hid hgB
  obtain ⟨EN, hEN⟩ : ∃ EN, EN = enterS (mt fs) clock s.dat e.dat := ⟨_, rfl⟩
  rw [← hEN] at HC1 HRk
  have HEN := Lib.hid hEN
  have HST : Hid (stepS (mt fs) clock s.dat e.dat = if e.kind = 5 ∨ e.kind = 4 then (EN.1 ++ [(stretchS EN.2 e.dat).1], rememberS (stretchS EN.2 e.dat).2 e.dat)
      else if gB then (if e.kind ≠ 3 then (EN.1 ++ ((resolveS (mt fs) clock EN.2 2).1 ++ [⟨e.dat, 1, 0⟩]), rememberS (resolveS (mt fs) clock EN.2 2).2 e.dat) else (EN.1 ++ [⟨e.dat, 1, 0⟩], rememberS EN.2 e.dat))
      else if e.kind = 3 then (EN.1, rememberS { EN.2 with waiting := true, seq := e.seq } e.dat)
      else (EN.1 ++ [(decideS (mt fs) clock EN.2 e.dat).1], rememberS (decideS (mt fs) clock EN.2 e.dat).2 e.dat)) := by unfold Hid; rw [hgB, hEN]; rfl
  rw [hX] at x0 x1 x2 x3 x4 x5 x6
  unfold EntD.cells at HX HC1 x0 x1 x2 x3 x4 x5 x6 ⊢
  clear ht0 ht h he hf hfs A hX h1 eb hqb K0 hgB hEN hfr hlt HK0
  go_enter Tryz.func95, Tryz.ntmps95
  go_wp2_with fail
  rw [← HX.out]
  (try rw [hqb'])
  refine Calls.mono HC1.out ?_
  rintro z X1 ⟨rfl, O1, s1, K1, d1, l1⟩
  clear x0 x1 x2 x3 x4 x5 x6 HC1 HX hqb'
  obtain ⟨x0, x1, x2, x3, x4, x5, x6⟩ := HCE.out _ _ _ _ K1
  have hv1 : (vs ++ EN.1).length < 1353245080336 := by have := HRk.out.2; rw [List.length_append]; omega
  have hr1 : s1.rank ≤ (vs ++ EN.1).length := by
    have q := HRk.out.1
    have q2 : s1.rank = EN.2.rank := by rw [← d1]; rfl
    have q3 : s.dat.rank = s.rank := rfl
    rw [List.length_append]; omega
  have HK1 := Lib.hid (And.intro K1 d1)
  clear K1 d1 l1
  by_cases h5 : e.kind = 5
  · have hb5 : (e.kind == 5) = true := by simp [h5]
    have H5 := Lib.hid h5
    clear h5
    have HC2 := Lib.hid (stretch_any HT.out HK1.out.1 (HE.out _ HK1.out.1.fr) HF.out (by omega))
    rw [HK1.out.2] at HC2
    unfold EntD.cells at HC2
    go_wp2_with fail
    refine Calls.mono HC2.out ?_
    rintro z X2 ⟨rfl, O2, s2, K2, d2, l2⟩
    have HK2 := Lib.hid (And.intro K2 d2)
    clear x0 x1 x2 x3 x4 x5 x6 HC2 K2 d2 l2
    have HCr := Lib.hid (remember_any HT.out HK2.out.1 HE.out HF.out)
    obtain ⟨x0, x1, x2, x3, x4, x5, x6⟩ := HCE.out _ _ _ _ HK2.out.1
    unfold EntD.cells at HCr
    go_wp2_with fail
    refine Calls.mono HCr.out ?_
    rintro z X9 ⟨rfl, s9, K9, d9⟩
    have HK9 := Lib.hid (And.intro K9 d9)
    clear x0 x1 x2 x3 x4 x5 x6 HCr K9 d9
    go_wp2
    go_end0
    have eS : stepS (mt fs) clock s.dat e.dat = (EN.1 ++ [(stretchS EN.2 e.dat).1], rememberS (stretchS EN.2 e.dat).2 e.dat) := by rw [HST.out]; rw [if_pos (.inl H5.out)]
    refine ⟨rfl, (fun i => O2 i ∧ i ≠ qb), s9, ?_, ?_⟩
    · rw [eS]
      have k := HK9.out.1.unext
      (try simp only [List.append_assoc] at k)
      exact k
    · rw [eS, HK9.out.2, HK2.out.2]
      try rfl
  · have hb5 : (e.kind == 5) = false := by simp [h5]
    have H5 := Lib.hid h5
    clear h5
    by_cases h4 : e.kind = 4
    · have hb4 : (e.kind == 4) = true := by simp [h4]
      have H4 := Lib.hid h4
      clear h4
      have HC2 := Lib.hid (stretch_any HT.out HK1.out.1 (HE.out _ HK1.out.1.fr) HF.out (by omega))
      rw [HK1.out.2] at HC2
      unfold EntD.cells at HC2
      go_wp2_with fail
      refine Calls.mono HC2.out ?_
      rintro z X2 ⟨rfl, O2, s2, K2, d2, l2⟩
      have HK2 := Lib.hid (And.intro K2 d2)
      clear x0 x1 x2 x3 x4 x5 x6 HC2 K2 d2 l2
      have HCr := Lib.hid (remember_any HT.out HK2.out.1 HE.out HF.out)
      obtain ⟨x0, x1, x2, x3, x4, x5, x6⟩ := HCE.out _ _ _ _ HK2.out.1
      unfold EntD.cells at HCr
      go_wp2_with fail
      refine Calls.mono HCr.out ?_
      rintro z X9 ⟨rfl, s9, K9, d9⟩
      have HK9 := Lib.hid (And.intro K9 d9)
      clear x0 x1 x2 x3 x4 x5 x6 HCr K9 d9
      go_wp2
      go_end0
      have eS : stepS (mt fs) clock s.dat e.dat = (EN.1 ++ [(stretchS EN.2 e.dat).1], rememberS (stretchS EN.2 e.dat).2 e.dat) := by rw [HST.out]; rw [if_pos (.inr H4.out)]
      refine ⟨rfl, (fun i => O2 i ∧ i ≠ qb), s9, ?_, ?_⟩
      · rw [eS]
        have k := HK9.out.1.unext
        (try simp only [List.append_assoc] at k)
        exact k
      · rw [eS, HK9.out.2, HK2.out.2]
        try rfl
    · have hb4 : (e.kind == 4) = false := by simp [h4]
      have H54 : Hid (¬ (e.kind = 5 ∨ e.kind = 4)) := fun k => k.elim H5.out h4
      clear h4
      cases gB with
      | true =>
        by_cases h3 : e.kind = 3
        · have hb3 : (e.kind != 3) = false := by simp [h3]
          have hb3' : (e.kind == 3) = true := by simp [h3]
          have H3 := Lib.hid h3
          clear h3
          have D4 : Below X1.heap.size X1 X1.drew := (Below.refl _ _).drew
          have K4 := HK1.out.1.later HT.out D4
          have HK4 := Lib.hid K4
          have HC4 := Lib.hid (HT.out.say 1 0 K4.tell (HE.out _ K4.fr) HF.out (by omega))
          have z2 := K4.box.c2
          have ze := HCE.out _ _ _ _ K4
          clear K4
          unfold vdV at HC4
          go_upto_region 8 with fail
          go_region_held3 (fun Z => Z.cell? ⟨wb, 2, none⟩ = some (.func (.func g) #[.pointer (some ⟨rb, 0, none⟩)] #[]) ∧ Z.cell? ⟨qb, 0, none⟩ = some e.vr ∧ Z.cell? ⟨qb, 1, none⟩ = some (.int .i64 e.fam) ∧ Z.cell? ⟨qb, 2, none⟩ = some e.vq ∧ Z.cell? ⟨qb, 3, none⟩ = some (.int .i64 e.ts) ∧ Z.cell? ⟨qb, 4, none⟩ = some (.int .i64 e.seq) ∧ Z.cell? ⟨qb, 5, none⟩ = some (.int .i64 e.kind) ∧ Z.cell? ⟨qb, 6, none⟩ = some e.vv) (first | exact ⟨K5.box.c2, HCE.out _ _ _ _ K5⟩ | exact ⟨z2, ze⟩) ((refine Calls.mono HC4.out ?_; rintro z X2 ⟨rfl, O2, t2, f2⟩; have K5 := HK4.out.told t2 f2))
          have HK2 := Lib.hid (And.intro K5 HK1.out.2)
          clear x0 x1 x2 x3 x4 x5 x6 HC4 K5 t2 f2 z2 ze D4 HK4
          have HCr := Lib.hid (remember_any HT.out HK2.out.1 HE.out HF.out)
          obtain ⟨x0, x1, x2, x3, x4, x5, x6⟩ := HCE.out _ _ _ _ HK2.out.1
          unfold EntD.cells at HCr
          go_wp2_with fail
          refine Calls.mono HCr.out ?_
          rintro z X9 ⟨rfl, s9, K9, d9⟩
          have HK9 := Lib.hid (And.intro K9 d9)
          clear x0 x1 x2 x3 x4 x5 x6 HCr K9 d9
          go_wp2
          go_end0
          have eS : stepS (mt fs) clock s.dat e.dat = (EN.1 ++ [⟨e.dat, 1, 0⟩], rememberS EN.2 e.dat) := by rw [HST.out]; rw [if_neg H54.out, if_pos trivial, if_neg (fun k => k H3.out)]
          refine ⟨rfl, (fun i => O2 i ∧ i ≠ qb), s9, ?_, ?_⟩
          · rw [eS]
            have k := HK9.out.1.unext
            (try simp only [List.append_assoc] at k)
            exact k
          · rw [eS, HK9.out.2, HK2.out.2]
            try rfl
        · have hb3 : (e.kind != 3) = true := by simp [h3]
          have hb3' : (e.kind == 3) = false := by simp [h3]
          have H3 := Lib.hid h3
          clear h3
          have hEN : EN = ([], s.dat) := by rw [HEN.out]; unfold enterS; rw [if_pos HgB.out.symm]
          have hwb1 : s1.waiting = true → s1.begun = true := by
            have q := HK1.out.2
            rw [hEN] at q
            have q1 : s1.waiting = s.waiting := congrArg Sp.waiting q
            have q2 : s1.begun = s.begun := congrArg Sp.begun q
            rw [q1, q2]; exact HWb.out
          clear hEN
          have HC3 := Lib.hid (resolve_any HT.out HK1.out.1 (by omega) HFs.out hr1 hwb1 2)
          rw [HK1.out.2] at HC3
          clear hwb1
          go_wp2_with fail
          refine Calls.mono HC3.out ?_
          rintro z X3 ⟨rfl, O3, s3, K3, d3, l3⟩
          have HKr := Lib.hid (And.intro K3 d3)
          have hv3 : (vs ++ EN.1 ++ (resolveS (mt fs) clock EN.2 2).1).length < 1353245080339 := by have := (resolve_rank (mt fs) clock EN.2 2).2; rw [List.length_append]; omega
          clear x0 x1 x2 x3 x4 x5 x6 HC3 K3 d3 l3
          obtain ⟨x0, x1, x2, x3, x4, x5, x6⟩ := HCE.out _ _ _ _ HKr.out.1
          have D4 : Below X3.heap.size X3 X3.drew := (Below.refl _ _).drew
          have K4 := HKr.out.1.later HT.out D4
          have HK4 := Lib.hid K4
          have HC4 := Lib.hid (HT.out.say 1 0 K4.tell (HE.out _ K4.fr) HF.out (by omega))
          have z2 := K4.box.c2
          have ze := HCE.out _ _ _ _ K4
          clear K4
          unfold vdV at HC4
          go_upto_region 8 with fail
          go_region_held3 (fun Z => Z.cell? ⟨wb, 2, none⟩ = some (.func (.func g) #[.pointer (some ⟨rb, 0, none⟩)] #[]) ∧ Z.cell? ⟨qb, 0, none⟩ = some e.vr ∧ Z.cell? ⟨qb, 1, none⟩ = some (.int .i64 e.fam) ∧ Z.cell? ⟨qb, 2, none⟩ = some e.vq ∧ Z.cell? ⟨qb, 3, none⟩ = some (.int .i64 e.ts) ∧ Z.cell? ⟨qb, 4, none⟩ = some (.int .i64 e.seq) ∧ Z.cell? ⟨qb, 5, none⟩ = some (.int .i64 e.kind) ∧ Z.cell? ⟨qb, 6, none⟩ = some e.vv) (first | exact ⟨K5.box.c2, HCE.out _ _ _ _ K5⟩ | exact ⟨z2, ze⟩) ((refine Calls.mono HC4.out ?_; rintro z X2 ⟨rfl, O2, t2, f2⟩; have K5 := HK4.out.told t2 f2))
          have HK2 := Lib.hid (And.intro K5 HKr.out.2)
          clear x0 x1 x2 x3 x4 x5 x6 HC4 K5 t2 f2 z2 ze D4 HK4
          have HCr := Lib.hid (remember_any HT.out HK2.out.1 HE.out HF.out)
          obtain ⟨x0, x1, x2, x3, x4, x5, x6⟩ := HCE.out _ _ _ _ HK2.out.1
          unfold EntD.cells at HCr
          go_wp2_with fail
          refine Calls.mono HCr.out ?_
          rintro z X9 ⟨rfl, s9, K9, d9⟩
          have HK9 := Lib.hid (And.intro K9 d9)
          clear x0 x1 x2 x3 x4 x5 x6 HCr K9 d9
          go_wp2
          go_end0
          have eS : stepS (mt fs) clock s.dat e.dat = (EN.1 ++ ((resolveS (mt fs) clock EN.2 2).1 ++ [⟨e.dat, 1, 0⟩]), rememberS (resolveS (mt fs) clock EN.2 2).2 e.dat) := by rw [HST.out]; rw [if_neg H54.out, if_pos trivial, if_pos H3.out]
          refine ⟨rfl, (fun i => O2 i ∧ i ≠ qb), s9, ?_, ?_⟩
          · rw [eS]
            have k := HK9.out.1.unext
            (try simp only [List.append_assoc] at k)
            exact k
          · rw [eS, HK9.out.2, HK2.out.2]
            try rfl
      | false =>
        by_cases h3 : e.kind = 3
        · have hb3' : (e.kind == 3) = true := by simp [h3]
          have H3 := Lib.hid h3
          clear h3
          have c14 := HK1.out.1.box.c14
          have c15 := HK1.out.1.box.c15
          have f14 := HK1.out.1.box.fz 14
          have f15 := HK1.out.1.box.fz 15
          have hne : wb ≠ qb := fun k => HK1.out.1.notO (by rw [k]; exact HK1.out.1.tell.2.1)
          have hne' : qb ≠ wb := hne.symm
          go_upto_region 10 with fail
          go_region
          have hG : X1.grownBy (((X1.setCell ⟨wb, 14, none⟩ (.bool true)).setCell ⟨wb, 15, none⟩ (.int .i64 e.seq)).drew) (some wb) := (grown2 _ _ _ _ _ _).drew
          have K2 := HK1.out.1.put HT.out (((HK1.out.1.box.setWaiting true).setSeq e.seq).keep (drew_heap _ _)) hG rfl HK1.out.1.rank HK1.out.1.mask HK1.out.1.wait
          have HK2 : Hid (Wk W0 wb g rb fv fs clock (TE T qb (.cells e.cells 84 (0, 0))) (((X1.setCell ⟨wb, 14, none⟩ (.bool true)).setCell ⟨wb, 15, none⟩ (.int .i64 e.seq)).drew) O1 { s1 with waiting := true, seq := e.seq } (vs ++ EN.1) ∧ SpD.dat { s1 with waiting := true, seq := e.seq } = { EN.2 with waiting := true, seq := e.seq }) := ⟨K2, by rw [← HK1.out.2]; rfl⟩
          obtain ⟨X2, hX2⟩ : ∃ X2, X2 = ((X1.setCell ⟨wb, 14, none⟩ (.bool true)).setCell ⟨wb, 15, none⟩ (.int .i64 e.seq)).drew := ⟨_, rfl⟩
          rw [← hX2] at HK2
          have HX2 := Lib.hid hX2
          obtain ⟨O2, hO2⟩ : ∃ O2, O2 = O1 := ⟨_, rfl⟩
          rw [← hO2] at HK2
          clear hX2 K2 hG c14 c15 f14 f15 x0 x1 x2 x3 x4 x5 x6 hO2
          go_upto_region 11 with fail
          rw [← HX2.out]
          clear HX2
          have HCr := Lib.hid (remember_any HT.out HK2.out.1 HE.out HF.out)
          obtain ⟨x0, x1, x2, x3, x4, x5, x6⟩ := HCE.out _ _ _ _ HK2.out.1
          unfold EntD.cells at HCr
          go_wp2_with fail
          refine Calls.mono HCr.out ?_
          rintro z X9 ⟨rfl, s9, K9, d9⟩
          have HK9 := Lib.hid (And.intro K9 d9)
          clear x0 x1 x2 x3 x4 x5 x6 HCr K9 d9
          go_wp2
          go_end0
          have eS : stepS (mt fs) clock s.dat e.dat = (EN.1, rememberS { EN.2 with waiting := true, seq := e.seq } e.dat) := by rw [HST.out]; rw [if_neg H54.out, if_neg (by simp), if_pos H3.out]
          refine ⟨rfl, (fun i => O2 i ∧ i ≠ qb), s9, ?_, ?_⟩
          · rw [eS]
            have k := HK9.out.1.unext
            (try simp only [List.append_assoc] at k)
            exact k
          · rw [eS, HK9.out.2, HK2.out.2]
            try rfl
        · have hb3 : (e.kind == 3) = false := by simp [h3]
          have H3 := Lib.hid h3
          clear h3
          have HC2 := Lib.hid (decide_any HT.out HK1.out.1 (HE.out _ HK1.out.1.fr) HF.out (by omega) HFs.out hr1)
          rw [HK1.out.2] at HC2
          unfold EntD.cells at HC2
          go_wp2_with fail
          refine Calls.mono HC2.out ?_
          rintro z X2 ⟨rfl, O2, s2, K2, d2, l2⟩
          have HK2 := Lib.hid (And.intro K2 d2)
          clear x0 x1 x2 x3 x4 x5 x6 HC2 K2 d2 l2
          have HCr := Lib.hid (remember_any HT.out HK2.out.1 HE.out HF.out)
          obtain ⟨x0, x1, x2, x3, x4, x5, x6⟩ := HCE.out _ _ _ _ HK2.out.1
          unfold EntD.cells at HCr
          go_wp2_with fail
          refine Calls.mono HCr.out ?_
          rintro z X9 ⟨rfl, s9, K9, d9⟩
          have HK9 := Lib.hid (And.intro K9 d9)
          clear x0 x1 x2 x3 x4 x5 x6 HCr K9 d9
          go_wp2
          go_end0
          have eS : stepS (mt fs) clock s.dat e.dat = (EN.1 ++ [(decideS (mt fs) clock EN.2 e.dat).1], rememberS (decideS (mt fs) clock EN.2 e.dat).2 e.dat) := by rw [HST.out]; rw [if_neg H54.out, if_neg (by simp), if_neg H3.out]
          refine ⟨rfl, (fun i => O2 i ∧ i ≠ qb), s9, ?_, ?_⟩
          · rw [eS]
            have k := HK9.out.1.unext
            (try simp only [List.append_assoc] at k)
            exact k
          · rw [eS, HK9.out.2, HK2.out.2]
            try rfl
end Go.Proofs.YthhkpkfpifllkaaGreat

namespace Go.Proofs.YthhkpkfpifllkaaGreat
open Go.RowKit
set_option linter.unusedVariables false
variable {W0 : Base} {W : World} {wb g rb : Nat} {fv : Value} {fs : List FamD} {clock : Int} {T : World → (Nat → Prop) → List Vd → Prop} {O : Nat → Prop} {s : SpD} {vs : List Vd} {e : EntD}
def spZ : SpD := ⟨false, ⟨.slice none 0 0, 0, .slice none 0 0, 0, 0, 0, .slice none 0 0, [], [], []⟩, 0, 0, 0, false, 0⟩
theorem WBx.zero {w : World} {b : Nat} {fv tv : Value} {clock : Int} {s : SpD} (h : WBx w b fv clock tv s) : WBx (((((((((((((w.setCell ⟨b, 3, none⟩ (.bool false)).setCell ⟨b, 4, none⟩ (.slice none 0 0)).setCell ⟨b, 5, none⟩ (.int .i64 0)).setCell ⟨b, 6, none⟩ (.slice none 0 0)).setCell ⟨b, 7, none⟩ (.int .i64 0)).setCell ⟨b, 8, none⟩ (.int .i64 0)).setCell ⟨b, 9, none⟩ (.int .i64 0)).setCell ⟨b, 10, none⟩ (.slice none 0 0)).setCell ⟨b, 11, none⟩ (.int .i64 0)).setCell ⟨b, 12, none⟩ (.int .i64 0)).setCell ⟨b, 13, none⟩ (.int .i64 0)).setCell ⟨b, 14, none⟩ (.bool false)).setCell ⟨b, 15, none⟩ (.int .i64 0)) b fv clock tv spZ := by
  have h1 := h.set (i := 3) (v := .bool false) (s' := { s with begun := false }) rfl
  have h2 := h1.set (i := 4) (v := .slice none 0 0) (s' := { s with begun := false, last := { s.last with vr := .slice none 0 0 } }) rfl
  have h3 := h2.set (i := 5) (v := .int .i64 0) (s' := { s with begun := false, last := { s.last with vr := .slice none 0 0, fam := 0 } }) rfl
  have h4 := h3.set (i := 6) (v := .slice none 0 0) (s' := { s with begun := false, last := { s.last with vr := .slice none 0 0, fam := 0, vq := .slice none 0 0 } }) rfl
  have h5 := h4.set (i := 7) (v := .int .i64 0) (s' := { s with begun := false, last := { s.last with vr := .slice none 0 0, fam := 0, vq := .slice none 0 0, ts := 0 } }) rfl
  have h6 := h5.set (i := 8) (v := .int .i64 0) (s' := { s with begun := false, last := { s.last with vr := .slice none 0 0, fam := 0, vq := .slice none 0 0, ts := 0, seq := 0 } }) rfl
  have h7 := h6.set (i := 9) (v := .int .i64 0) (s' := { s with begun := false, last := { s.last with vr := .slice none 0 0, fam := 0, vq := .slice none 0 0, ts := 0, seq := 0, kind := 0 } }) rfl
  have h8 := h7.set (i := 10) (v := .slice none 0 0) (s' := { s with begun := false, last := spZ.last }) rfl
  exact ((((h8.setFamily 0).setMask 0).setRank 0).setWaiting false).setSeq 0
set_option maxRecDepth 100000 in
set_option maxHeartbeats 4000000 in
theorem end_any (ht : Teller g rb T) (h : Wk W0 wb g rb fv fs clock T W O s vs) (hv : vs.length < 1353245080339) (hfs : ∀ f ∈ fs, 0 ≤ f.tl ∧ f.tl ≤ 1099511627776) (hr : s.rank ≤ vs.length) (hwb : s.waiting = true → s.begun = true) :
    Calls Tryz.prog 96 #[.pointer (some ⟨wb, 0, none⟩)] W fun r W' => r = .returned (.tuple #[]) ∧ ∃ O', Wk W0 wb g rb fv fs clock T W' O' spZ (vs ++ (resolveS (mt fs) clock s.dat 3).1) := by
  have HC := Lib.hid (resolve_any ht h hv hfs hr hwb 3)
  have HT := Lib.hid ht
  clear ht h hfs hwb
  go_enter Tryz.func96, Tryz.ntmps96
  go_wp2_with fail
  refine Calls.mono HC.out ?_
  rintro z X1 ⟨rfl, O1, s1, K1, d1, l1⟩
  have HK1 := Lib.hid K1
  obtain ⟨aL, nL, cL, eL⟩ := rd_slice K1.ok.1
  obtain ⟨aQ, nQ, cQ, eQ⟩ := rd_slice K1.ok.2.1
  obtain ⟨aV, nV, cV, eV⟩ := rd_slice K1.ok.2.2
  have c3 := K1.box.c3
  obtain ⟨c4, c5, c6, c7, c8, c9, c10⟩ := K1.box.last7
  rw [eL] at c4
  rw [eQ] at c6
  rw [eV] at c10
  have c11 := K1.box.c11
  have c12 := K1.box.c12
  have c13 := K1.box.c13
  have c14 := K1.box.c14
  have c15 := K1.box.c15
  have f3 := K1.box.fz 3
  have f4 := K1.box.fz 4
  have f5 := K1.box.fz 5
  have f6 := K1.box.fz 6
  have f7 := K1.box.fz 7
  have f8 := K1.box.fz 8
  have f9 := K1.box.fz 9
  have f10 := K1.box.fz 10
  have f11 := K1.box.fz 11
  have f12 := K1.box.fz 12
  have f13 := K1.box.fz 13
  have f14 := K1.box.fz 14
  have f15 := K1.box.fz 15
  clear K1 d1 l1 eL eQ eV HC
  have hG : X1.grownBy (((((((((((((X1.setCell ⟨wb, 3, none⟩ (.bool false)).setCell ⟨wb, 4, none⟩ (.slice none 0 0)).setCell ⟨wb, 5, none⟩ (.int .i64 0)).setCell ⟨wb, 6, none⟩ (.slice none 0 0)).setCell ⟨wb, 7, none⟩ (.int .i64 0)).setCell ⟨wb, 8, none⟩ (.int .i64 0)).setCell ⟨wb, 9, none⟩ (.int .i64 0)).setCell ⟨wb, 10, none⟩ (.slice none 0 0)).setCell ⟨wb, 11, none⟩ (.int .i64 0)).setCell ⟨wb, 12, none⟩ (.int .i64 0)).setCell ⟨wb, 13, none⟩ (.int .i64 0)).setCell ⟨wb, 14, none⟩ (.bool false)).setCell ⟨wb, 15, none⟩ (.int .i64 0)) (some wb) :=
    g_trans (g_trans (g_trans (g_trans (g_trans (grown8 _ _ _ _ _ _ _ _ _ _ _ _ _ _ _ _ _ _) (grown1 _ _ _ _)) (grown1 _ _ _ _)) (grown1 _ _ _ _)) (grown1 _ _ _ _)) (grown1 _ _ _ _)
  have hB := HK1.out.box.zero
  have hKp := HK1.out.put HT.out (s' := { s1 with rank := s1.rank }) (W' := X1) HK1.out.box (World.grownBy.refl _ _) rfl HK1.out.rank HK1.out.mask HK1.out.wait
  obtain ⟨V, hV⟩ : ∃ V, V = ((((((((((((X1.setCell ⟨wb, 3, none⟩ (.bool false)).setCell ⟨wb, 4, none⟩ (.slice none 0 0)).setCell ⟨wb, 5, none⟩ (.int .i64 0)).setCell ⟨wb, 6, none⟩ (.slice none 0 0)).setCell ⟨wb, 7, none⟩ (.int .i64 0)).setCell ⟨wb, 8, none⟩ (.int .i64 0)).setCell ⟨wb, 9, none⟩ (.int .i64 0)).setCell ⟨wb, 10, none⟩ (.slice none 0 0)).setCell ⟨wb, 11, none⟩ (.int .i64 0)).setCell ⟨wb, 12, none⟩ (.int .i64 0)).setCell ⟨wb, 13, none⟩ (.int .i64 0)).setCell ⟨wb, 14, none⟩ (.bool false)).setCell ⟨wb, 15, none⟩ (.int .i64 0) := ⟨_, rfl⟩
  rw [← hV] at hG hB
  have HGB := Lib.hid (And.intro hG hB)
  have HV := Lib.hid hV
  clear hG hB hV hKp
  go_wp2
  go_end0
  rw [← HV.out]
  obtain ⟨hG, hB⟩ := HGB.out
  have h := HK1.out
  refine ⟨rfl, O1, hB, h.fam, HT.out.keep h.tell (fun i hi => hG.block i (HT.out.lt h.tell hi) (fun e => by cases e; exact h.notO hi)) hG.size, ⟨⟨rfl, World.ownsRow_nil _ _ _ _⟩, ⟨rfl, World.ownsRow_nil _ _ _ _⟩, ⟨rfl, World.ownsRow_nil _ _ _ _⟩⟩, (fun k hk => by rcases hk with hk | hk | hk <;> cases hk), ⟨(fun k hk => by cases hk), (fun k hk => by cases hk)⟩, (fun k hk => by rcases hk with hk | hk | hk <;> cases hk), h.low, h.lo, h.wlow, ⟨Int.le_refl 0, by show (0 : Int) ≤ _; omega⟩, ⟨Int.le_refl 0, Int.le_refl 0⟩, ⟨by simp [spZ, Bys], by simp [spZ, Bys], by simp [spZ, Bys]⟩, ⟨by simp [spZ], by simp [spZ], by simp [spZ]⟩, (fun k => by cases k), hG.os.trans h.os, hG.tape.trans h.tape, hG.output.trans h.output, Nat.le_trans h.fr.1 hG.size, fun i hi k1 k2 k3 => ?_⟩
  rw [hG.block i (Nat.lt_of_lt_of_le hi h.fr.1) (fun e => by cases e; exact k1 rfl)]
  exact h.fr.2 i hi k1 k2 k3
end Go.Proofs.YthhkpkfpifllkaaGreat

namespace Go.Proofs.YthhkpkfpifllkaaGreat
open Go.RowKit
set_option linter.unusedVariables false

theorem und_ents3 : Tryz.prog.underlying 28 = some (.slice 84) := by kernel_rfl
theorem info_ent3 : (Tryz.prog.info? 84).map (fun i => (i.zero, i.size, i.bytes)) = some (some (.agg #[.slice none 0 0, .int .i64 0, .slice none 0 0, .int .i64 0, .int .i64 0, .int .i64 0, .slice none 0 0]), 7, 104) := by kernel_rfl
def evals (xs : List EntD) : List Value := (xs.map fun e => e.cells.toList).flatten
theorem evals_snoc (xs : List EntD) (x : EntD) : evals (xs ++ [x]) = evals xs ++ x.cells.toList := by simp [evals]
def Dsj (x y : EntD) : Prop := ∀ g, (x.vr.ownBlock = some g ∨ x.vq.ownBlock = some g ∨ x.vv.ownBlock = some g) → ¬ (y.vr.ownBlock = some g ∨ y.vq.ownBlock = some g ∨ y.vv.ownBlock = some g)
structure Rw (w : World) (N : Nat) (v : Value) (xs : List EntD) (O : Nat → Prop) : Prop where
  row : w.ownsRow N 84 7 v xs.length (evals xs)
  ents : ∀ x ∈ xs, O3 w N x
  ap : xs.Pairwise Dsj
  rowO : ∀ k, v.ownBlock = some k → O k
  entO : ∀ x ∈ xs, ∀ k, x.vr.ownBlock = some k ∨ x.vq.ownBlock = some k ∨ x.vv.ownBlock = some k → O k
section
variable {w w' : World} {N : Nat} {v : Value} {xs : List EntD} {O O' : Nat → Prop}
theorem row_same {B n s : Nat} {e : TypeId} {u : Value} {vs : List Value} (h : w.ownsRow B e s u n vs) (k : ∀ g, u.ownBlock = some g → w'.heap[g]? = w.heap[g]?) : w'.ownsRow B e s u n vs := by
  refine ⟨h.1, ?_⟩
  rcases h.2 with h2 | ⟨g, cap, cur, h3, h4, h5, h6⟩
  · exact .inl h2
  · exact .inr ⟨g, cap, cur, h3, h4, by rw [k g (by rw [h3]; rfl)]; exact h5, h6⟩
theorem O3.keepO {x : EntD} (h : O3 w N x) (k : ∀ g, x.vr.ownBlock = some g ∨ x.vq.ownBlock = some g ∨ x.vv.ownBlock = some g → w'.heap[g]? = w.heap[g]?) : O3 w' N x :=
  ⟨own_same h.row (fun g hg => k g (.inl hg)), own_same h.qual (fun g hg => k g (.inr (.inl hg))), own_same h.val (fun g hg => k g (.inr (.inr hg))), h.arq, h.arv, h.aqv⟩
theorem Rw.keep (h : Rw w N v xs O) (k : ∀ i, O i → w'.heap[i]? = w.heap[i]?) : Rw w' N v xs O :=
  ⟨row_same h.row (fun g hg => k g (h.rowO g hg)), fun x hx => (h.ents x hx).keepO (fun g hg => k g (h.entO x hx g hg)), h.ap, h.rowO, h.entO⟩
theorem Rw.mono (h : Rw w N v xs O) (k : ∀ i, O i → O' i) : Rw w N v xs O' := ⟨h.row, h.ents, h.ap, fun g hg => k g (h.rowO g hg), fun x hx g hg => k g (h.entO x hx g hg)⟩
theorem Rw.nil (w : World) (N : Nat) (O : Nat → Prop) : Rw w N (.slice none 0 0) [] O := ⟨by simpa [evals] using World.ownsRow_nil w N 84 7, by simp, List.Pairwise.nil, (fun k hk => by cases hk), by simp⟩
theorem rows_form3 {B n : Nat} {vs : List Value} (h : w.ownsRow B 84 7 v n vs) : ∃ a c, v = .slice a n c := by
  rcases h.2 with ⟨h1, h2⟩ | ⟨g, cap, cur, h1, _⟩
  · exact ⟨none, 0, by rw [h1, h2]⟩
  · exact ⟨_, _, h1⟩
theorem run_append_ent {ty : TypeId} {x : EntD} (hr : w.ownsRow N 84 7 v xs.length (evals xs)) (ad : Addr) (hc : ∀ j u, x.cells.toList[j]? = some u → w.cell? (ad.add j) = some u) (h1 : ∀ u ∈ x.cells.toList, u.oneCell' = true) (hn : (xs.length + 1) * 104 ≤ 140737488355328) (hN : N ≤ w.heap.size) :
    ∃ v' w', (Builtin.append_ #[28, 28] ty #[v, .slice (some ad) 1 1]).run Tryz.prog w = .ok v' w' ∧ w'.ownsRow N 84 7 v' (xs ++ [x]).length (evals (xs ++ [x])) ∧ w.grownBy w' v.ownBlock ∧ (∀ k, v'.ownBlock = some k → v.ownBlock = some k ∨ k = w.heap.size) := by
  obtain ⟨i0, hi, hz0, hz1, hz2⟩ := info_parts info_ent3
  obtain ⟨v', w', hr', h2, h3, h4, h5⟩ := run_append_own_at (P := Tryz.prog) w N 28 ty 84 i0 _ 7 104 und_ents3 hi hz0 hz1 hz2 rfl (by decide) v xs.length (evals xs) hr ad 1 1 x.cells.toList rfl hc h1 (by unfold maxLen; omega) (by omega) hN
  refine ⟨v', w', hr', ?_, h3, fun k hk => ?_⟩
  · rw [evals_snoc, List.length_append]
    exact h2
  · rcases h5 with h5 | h5
    · rw [h5] at hk; exact .inl hk
    · rw [h5] at hk; cases hk; exact .inr rfl
end
end Go.Proofs.YthhkpkfpifllkaaGreat
