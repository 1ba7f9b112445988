import Derived.Test.YthhkpkfpifllkaaGreatK03
import Derived.Maps.AppendAt
namespace Go.Proofs.YthhkpkfpifllkaaGreat
open Go.RowKit
set_option linter.unusedVariables false
variable {W0 : Base} {W : World} {wb g rb : Nat} {fv : Value} {fs : List FamD} {clock : Int} {T : World → (Nat → Prop) → List Vd → Prop} {O : Nat → Prop} {s : SpD} {vs : List Vd} {e : EntD}

set_option maxRecDepth 100000 in
set_option maxHeartbeats 4000000 in
theorem decide_any (ht : Teller g rb T) (h : Wk W0 wb g rb fv fs clock T W O s vs) (he : EntD.Ok W e) (hf : Fit fs.length e.dat) (hv : vs.length < 1353245080339) (hfs : ∀ f ∈ fs, 0 ≤ f.tl ∧ f.tl ≤ 1099511627776) (hr : s.rank ≤ vs.length) :
    Calls Tryz.prog 123 #[.pointer (some ⟨wb, 0, none⟩), .agg e.cells] W fun r W' => r = .returned (.tuple #[]) ∧ ∃ O' s', Wk W0 wb g rb fv fs clock T W' O' s' (vs ++ [(decideS (fs.map fun f => (f.mx, f.tl)) clock s.dat e.dat).1]) ∧ s'.dat = (decideS (fs.map fun f => (f.mx, f.tl)) clock s.dat e.dat).2 ∧ s'.last = s.last := by
  obtain ⟨vr, fam, vq, ts, sq, kd, vv, row, qual, val⟩ := e
  obtain ⟨ar, nr, cr, er⟩ := rd_slice he.1
  obtain ⟨aq, nq, cq, eq⟩ := rd_slice he.2.1
  obtain ⟨av, nv, cv, ev⟩ := rd_slice he.2.2
  simp only at er eq ev
  subst er eq ev
  obtain ⟨e, heE⟩ : ∃ e : EntD, e = ⟨.slice ar nr cr, fam, .slice aq nq cq, ts, sq, kd, .slice av nv cv, row, qual, val⟩ := ⟨_, rfl⟩
  rw [← heE] at he hf ⊢
  have e1 : e.vr = .slice ar nr cr := by rw [heE]
  have e2 : e.fam = fam := by rw [heE]
  have e3 : e.vq = .slice aq nq cq := by rw [heE]
  have e4 : e.ts = ts := by rw [heE]
  have e5 : e.seq = sq := by rw [heE]
  have e6 : e.kind = kd := by rw [heE]
  have e7 : e.vv = .slice av nv cv := by rw [heE]
  have HEE := Lib.hid (And.intro e1 (And.intro e2 (And.intro e3 (And.intro e4 (And.intro e5 (And.intro e6 e7))))))
  clear heE e1 e2 e3 e4 e5 e6 e7
  have hn : e.fam.toNat < fs.length := by have k1 : e.fam < (fs.length : Int) := hf.fam; have k0 : 0 ≤ e.fam := hf.fam0; omega
  obtain ⟨f, hfi⟩ : ∃ f, fs[e.fam.toNat]? = some f := ⟨fs[e.fam.toNat]'hn, by simp⟩
  have hfa : famAt (fs.map fun f => (f.mx, f.tl)) e.fam = (f.mx, f.tl) := by unfold famAt; simp [hfi]
  have hft := hfs f (List.mem_of_getElem? hfi)
  have A := (Below.refl W.heap.size W).alloc (Nat.le_refl _) (.cells e.cells 84)
  obtain ⟨X, hX⟩ : ∃ X, X = W.alloc (.cells e.cells 84) := ⟨_, rfl⟩
  have eb := EBox.new W e
  have h1 := h.later ht A
  have he1 := he.later A
  rw [← hX] at eb h1 he1
  have hXs : X.heap.size = W.heap.size + 1 := by rw [hX]; simp
  have HX := Lib.hid hX
  have HT := Lib.hid ht
  have HF := Lib.hid hf
  have eg := ht.enters
  obtain ⟨qb, hqb⟩ : ∃ q, q = W.heap.size := ⟨_, rfl⟩
  have hqb' := hqb.symm
  have hqs : X.heap.size = qb + 1 := by rw [hqb]; exact hXs
  clear hXs
  rw [← hqb] at eb
  have HQf : Hid (∀ q, qb ≤ q → W0.heap.size ≤ q ∧ ¬ O q ∧ (∀ k, s.last.vr.ownBlock = some k ∨ s.last.vq.ownBlock = some k ∨ s.last.vv.ownBlock = some k → k ≠ q) ∧ q ≠ wb) := fun q hq => by
    rw [hqb] at hq
    exact ⟨Nat.le_trans h.fr.1 hq, h.fresh ht hq, fun k hk => by have := (h.lastlt k hk).2; omega, by have := h.wlow; have := h.fr.1; omega⟩
  obtain ⟨fa, fc, hfv, hf1, hf2, hf3, hf4⟩ := h1.fam X h1.fr
  obtain ⟨gf, of, hfa2, hfc⟩ : ∃ gf of, fa = some ⟨gf, of, none⟩ ∧ (X.cell? ⟨gf, of + e.fam.toNat * 3, none⟩ = some (.string f.nm) ∧ X.cell? ⟨gf, of + e.fam.toNat * 3 + 1, none⟩ = some (.int .i64 f.mx) ∧ X.cell? ⟨gf, of + e.fam.toNat * 3 + 2, none⟩ = some (.int .i64 f.tl)) := by
    rcases hf4 with hf4 | ⟨gf, of, k1, k2⟩
    · rw [hf4] at hn; simp at hn
    · exact ⟨gf, of, k1, k2 _ f hfi⟩
  subst hfa2
  obtain ⟨nf, hnf⟩ : ∃ nf, nf = fs.length := ⟨_, rfl⟩
  rw [← hnf] at hfv hn
  have HNf := Lib.hid hnf
  obtain ⟨fe, hfe⟩ : ∃ fe : Nat, (fe : Int) = e.fam := ⟨e.fam.toNat, by have k0 : 0 ≤ e.fam := hf.fam0; omega⟩
  have hfe2 : e.fam.toNat = fe := by omega
  rw [hfe2] at hfc hn
  have hne0 : (0 : Int) ≤ e.fam := by omega
  have hne1 : e.fam < (nf : Int) := by omega
  clear hnf
  have x1 := eb.fam
  have y0 := h1.box.c0
  rw [hfv] at y0
  have HfeE := Lib.hid hfe2
  obtain ⟨g0, g1, g2⟩ := hfc
  have HH := Lib.hid h1
  have HEB := Lib.hid eb
  have HOK := Lib.hid he1
  obtain ⟨e1, e2, e3, e4, e5, e6, e7⟩ := HEE.out
  unfold EntD.cells at HX ⊢
  rw [e1, e2, e3, e4, e5, e6, e7] at HX ⊢
  rw [e2] at x1 hne0 hne1 hfe HfeE hfe2
  clear e1 e2 e3 e4 e5 e6 e7
  clear ht h he hf A hX h1 he1 hqb hf1 hf2 hf3 hf4 eb hfi hfs
  go_enter Tryz.func123, Tryz.ntmps123
  go_upto_region 1 with fail
  rw [← HX.out]
  (try rw [hqb'])
  clear hqb'
  have LB : ∀ Z, Below X.heap.size X Z → Z.cell? ⟨wb, 0, none⟩ = some (.slice (some ⟨gf, of, none⟩) nf fc) ∧ Z.cell? ⟨qb, 1, none⟩ = some (.int .i64 fam) ∧ Z.cell? ⟨gf, of + fe * 3, none⟩ = some (.string f.nm) ∧ Z.cell? ⟨gf, of + fe * 3 + 1, none⟩ = some (.int .i64 f.mx) ∧ Z.cell? ⟨gf, of + fe * 3 + 2, none⟩ = some (.int .i64 f.tl) := fun Z b => ⟨(b.cell (World.block_lt_of_cell? _ _ y0)).trans y0, (b.cell (World.block_lt_of_cell? _ _ x1)).trans x1, (b.cell (World.block_lt_of_cell? _ _ g0)).trans g0, (b.cell (World.block_lt_of_cell? _ _ g1)).trans g1, (b.cell (World.block_lt_of_cell? _ _ g2)).trans g2⟩
  have HLB := Lib.hid LB
  have D0 : Below X.heap.size X X.drew := (Below.refl _ _).drew
  clear LB
  have hfe3 : fam.toNat = fe := HfeE.out
  go_cut [4] (fun p wx => p = .pointer (some ⟨qb + 1, 0, none⟩) ∧ wx = (X.alloc (.cells #[.string f.nm, .int .i64 f.mx, .int .i64 f.tl] 132)).drew)
  case first =>
    go_region_held3 (fun Z => Z.cell? ⟨wb, 0, none⟩ = some (.slice (some ⟨gf, of, none⟩) nf fc) ∧ Z.cell? ⟨qb, 1, none⟩ = some (.int .i64 fam) ∧ Z.cell? ⟨gf, of + fe * 3, none⟩ = some (.string f.nm) ∧ Z.cell? ⟨gf, of + fe * 3 + 1, none⟩ = some (.int .i64 f.mx) ∧ Z.cell? ⟨gf, of + fe * 3 + 2, none⟩ = some (.int .i64 f.tl)) (first | exact HLB.out _ D0 | exact HLB.out _ (D0.alloc D0.size _) | exact HLB.out _ (((D0.alloc D0.size _).setCell D0.size _).setCell D0.size _)) (fail)
    all_goals (go_wp2_with fail; go_meet; exact ⟨rfl, rfl⟩)
  case rest =>
  obtain ⟨rfl, rfl⟩ := hcut
  have A1 : Below X.heap.size X (X.alloc (.cells #[.string f.nm, .int .i64 f.mx, .int .i64 f.tl] 132)) := (Below.refl _ _).alloc (Nat.le_refl _) _
  have F1 : FBx (X.alloc (.cells #[.string f.nm, .int .i64 f.mx, .int .i64 f.tl] 132)) (qb + 1) f := by rw [← hqs]; exact heap_new X _
  obtain ⟨Y1, hY1⟩ : ∃ Y, Y = X.alloc (.cells #[.string f.nm, .int .i64 f.mx, .int .i64 f.tl] 132) := ⟨_, rfl⟩
  rw [← hY1] at A1 F1
  have hY1s : Y1.heap.size = qb + 1 + 1 := by rw [hY1]; simp [hqs]
  have A2 : Below Y1.heap.size Y1 ((Y1.alloc (.cells #[.slice ar nr cr, .int .i64 fam, .slice aq nq cq, .int .i64 ts, .int .i64 sq, .int .i64 kd, .slice av nv cv, .int .i64 0, .int .i64 0] 152)).drew) := ((Below.refl _ _).alloc (Nat.le_refl _) _).drew
  have V2 : VBx ((Y1.alloc (.cells #[.slice ar nr cr, .int .i64 fam, .slice aq nq cq, .int .i64 ts, .int .i64 sq, .int .i64 kd, .slice av nv cv, .int .i64 0, .int .i64 0] 152)).drew) (qb + 1 + 1) e 0 0 := by rw [← hY1s]; unfold VBx; obtain ⟨e1, e2, e3, e4, e5, e6, e7⟩ := HEE.out; rw [e1, e2, e3, e4, e5, e6, e7]; exact heap_new Y1 _
  have A12 := A1.trans (A2.mono A1.size)
  obtain ⟨Y, hY⟩ : ∃ Y, Y = (Y1.alloc (.cells #[.slice ar nr cr, .int .i64 fam, .slice aq nq cq, .int .i64 ts, .int .i64 sq, .int .i64 kd, .slice av nv cv, .int .i64 0, .int .i64 0] 152)).drew := ⟨_, rfl⟩
  rw [← hY] at A12 V2 A2
  have HB : Hid (∀ Z, Below Y.heap.size Y Z → Wk W0 wb g rb fv fs clock T Z O s vs ∧ EBox Z qb e ∧ FBx Z (qb + 1) f ∧ VBx Z (qb + 1 + 1) e 0 0 ∧ EntD.Ok Z e) := fun Z b => by
    have b2 := A12.trans (b.mono A12.size)
    exact ⟨HH.out.later HT.out b2, HEB.out.later b2, F1.keep ((b.block _ (Nat.lt_of_lt_of_le F1.lt A2.size)).trans (A2.block _ F1.lt)), V2.keep (b.block _ V2.lt), HOK.out.later b2⟩
  have HY1 := Lib.hid hY1
  have HY := Lib.hid hY
  have xe := (HEB.out.later A1).cells7
  obtain ⟨e1, e2, e3, e4, e5, e6, e7⟩ := HEE.out
  rw [hY1, e1, e2, e3, e4, e5, e6, e7] at xe
  clear e1 e2 e3 e4 e5 e6 e7
  obtain ⟨xe0, xe1, xe2, xe3, xe4, xe5, xe6⟩ := xe
  clear A1 A2 A12 F1 V2 hY1 hY hY1s x1 y0 g0 g1 g2 HH HEB HOK D0
  go_upto_region 7 with fail
  rw [← HY1.out, ← HY.out]
  clear xe0 xe1 xe2 xe3 xe4 xe5 xe6 HY1 HY HX
  have hvq : qb ≤ qb + 1 + 1 := by omega
  have hqw : qb + 1 + 1 ≠ wb := (HQf.out _ hvq).2.2.2
  have hqw2 : wb ≠ qb + 1 + 1 := hqw.symm
  have HCs : Hid (∀ Z, Below Y.heap.size Y Z → (Z.cell? ⟨qb, 3, none⟩ = some (.int .i64 ts) ∧ Z.cell? ⟨qb, 5, none⟩ = some (.int .i64 kd)) ∧ (Z.cell? ⟨wb, 12, none⟩ = some (.int .i64 s.mask) ∧ Z.cell? ⟨wb, 13, none⟩ = some (.int .i64 s.rank) ∧ Z.cell? ⟨wb, 1, none⟩ = some (.int .i64 clock)) ∧ Z.cell? ⟨qb + 1, 1, none⟩ = some (.int .i64 f.mx) ∧ Z.cell? ⟨qb + 1, 2, none⟩ = some (.int .i64 f.tl)) := fun Z b => by
    obtain ⟨k1, k2, k3, k4, k5⟩ := HB.out Z b
    obtain ⟨e1, e2, e3, e4, e5, e6, e7⟩ := HEE.out
    have a3 := k2.ts
    have a5 := k2.kind
    rw [e4] at a3
    rw [e6] at a5
    exact ⟨⟨a3, a5⟩, ⟨k1.box.c12, k1.box.c13, k1.box.c1⟩, k3.c1, k3.c2⟩
  have HSd : Hid (s.dat.mask = s.mask ∧ e.dat.ts = ts ∧ e.dat.kind = kd ∧ e.dat.fam = fam ∧ famAt (fs.map fun f => (f.mx, f.tl)) e.dat.fam = (f.mx, f.tl)) := by
    obtain ⟨e1, e2, e3, e4, e5, e6, e7⟩ := HEE.out
    exact ⟨rfl, e4, e6, e2, hfa⟩
  have ts0 : 1 ≤ ts := by have := HF.out.ts0; rw [HSd.out.2.1] at this; exact this
  have ts9 : ts ≤ 1099511627776 := by have := HF.out.ts; rw [HSd.out.2.1] at this; exact this
  obtain ⟨tl0, tl9⟩ := hft
  have rk0 := (HB.out Y (Below.refl _ _)).1.rank.1
  have rk9 := hr
  have hvl : (vs.length : Int) < 1353245080339 := by omega
  have D0 : Below Y.heap.size Y Y.drew := (Below.refl _ _).drew
  clear hfa
  by_cases hm : ts ≤ s.mask
  · obtain ⟨⟨x3, x5⟩, ⟨y12, y13, y1⟩, z1, z2⟩ := HCs.out _ D0
    go_region_held3 (fun Z => Z.cell? ⟨qb, 3, none⟩ = some (.int .i64 ts) ∧ Z.cell? ⟨wb, 12, none⟩ = some (.int .i64 s.mask)) (first | exact ⟨x3, y12⟩) (fail)
    clear x3 x5 y12 y13 y1 z1 z2
    obtain ⟨k1, k2, k3, k4, k5⟩ := HB.out Y (Below.refl _ _)
    have fz := k4.fz 7
    have cz := k4.all.2.2.2.2.2.2.2.1
    have hG : Y.grownBy ((Y.setCell ⟨qb + 1 + 1, 7, none⟩ (.int .i64 2)).drew) (some (qb + 1 + 1)) := (grown1 _ _ _ _).drew
    have HKv := Lib.hid (k1.far HT.out hG (HQf.out _ hvq).1 (HQf.out _ hvq).2.1 (HQf.out _ hvq).2.2.1)
    have HVv : Hid (VBx ((Y.setCell ⟨qb + 1 + 1, 7, none⟩ (.int .i64 2)).drew) (qb + 1 + 1) e 2 0) := (k4.set7 2).keep rfl
    have HOv := Lib.hid (EntD.vput k5 k4 k5 hG)
    obtain ⟨V, hV⟩ : ∃ V, V = (Y.setCell ⟨qb + 1 + 1, 7, none⟩ (.int .i64 2)).drew := ⟨_, rfl⟩
    rw [← hV] at HKv HVv HOv
    have HVe := Lib.hid hV
    clear hV hG k1 k2 k3 k4 k5
    go_upto_region 13 with fail
    rw [← HVe.out]
    clear fz cz HVe HB HCs D0
    have D2 : Below V.heap.size V V.drew := (Below.refl _ _).drew
    have HC := Lib.hid (HT.out.say (2) (0) (HKv.out.later HT.out D2).tell (HOv.out.later D2) HF.out hv)
    have HK2 := Lib.hid (HKv.out.later HT.out D2)
    have HV2 : Hid (VBx V.drew (qb + 1 + 1) e (2) (0)) := HVv.out.keep rfl
    have z2 := HK2.out.box.c2
    have zv := HV2.out.all
    obtain ⟨e1, e2, e3, e4, e5, e6, e7⟩ := HEE.out
    rw [e1, e2, e3, e4, e5, e6, e7] at zv
    unfold vdV at HC
    rw [e1, e2, e3, e4, e5, e6, e7] at HC
    clear e1 e2 e3 e4 e5 e6 e7
    go_region_held3 (fun Z => Z.cell? ⟨wb, 2, none⟩ = some (.func (.func g) #[.pointer (some ⟨rb, 0, none⟩)] #[]) ∧ Z.cell? ⟨qb + 1 + 1, 0, none⟩ = some (.slice ar nr cr) ∧ Z.cell? ⟨qb + 1 + 1, 1, none⟩ = some (.int .i64 fam) ∧ Z.cell? ⟨qb + 1 + 1, 2, none⟩ = some (.slice aq nq cq) ∧ Z.cell? ⟨qb + 1 + 1, 3, none⟩ = some (.int .i64 ts) ∧ Z.cell? ⟨qb + 1 + 1, 4, none⟩ = some (.int .i64 sq) ∧ Z.cell? ⟨qb + 1 + 1, 5, none⟩ = some (.int .i64 kd) ∧ Z.cell? ⟨qb + 1 + 1, 6, none⟩ = some (.slice av nv cv) ∧ Z.cell? ⟨qb + 1 + 1, 7, none⟩ = some (.int .i64 2) ∧ Z.cell? ⟨qb + 1 + 1, 8, none⟩ = some (.int .i64 0)) (first | exact ⟨K3.box.c2, zv3⟩ | exact ⟨z2, zv⟩) ((refine Calls.mono HC.out ?_; rintro z X2 ⟨rfl, O2, t2, f2⟩; have K3 := HK2.out.told t2 f2; have zv3 := (HV2.out.keep (f2.block _ HV2.out.lt (HQf.out _ (by omega)).2.1)).all; obtain ⟨e1, e2, e3, e4, e5, e6, e7⟩ := HEE.out; rw [e1, e2, e3, e4, e5, e6, e7] at zv3; clear e1 e2 e3 e4 e5 e6 e7))
    have HK := Lib.hid K3
    clear K3 zv3 t2 f2 z2 zv D2
    go_wp2
    go_end0
    refine ⟨rfl, O2, s, ?_, ?_, rfl⟩
    · have q1 : (decideS (fs.map fun f => (f.mx, f.tl)) clock s.dat e.dat).1 = ⟨e.dat, 2, 0⟩ := by unfold decideS; rw [HSd.out.1, HSd.out.2.1, if_pos hm]
      rw [q1]; exact HK.out
    · unfold decideS; rw [HSd.out.1, HSd.out.2.1, if_pos hm]
  · obtain ⟨⟨x3, x5⟩, ⟨y12, y13, y1⟩, z1, z2⟩ := HCs.out _ D0
    go_region_held3 (fun Z => Z.cell? ⟨qb, 3, none⟩ = some (.int .i64 ts) ∧ Z.cell? ⟨wb, 12, none⟩ = some (.int .i64 s.mask)) (first | exact ⟨x3, y12⟩) (fail)
    clear x3 x5 y12 y13 y1 z1 z2
    have hm0 : ¬ ts ≤ s.mask := by omega
    have HM0 := Lib.hid hm0
    clear hm0
    obtain ⟨xp, hxp⟩ : ∃ xp : Bool, xp = decide (0 < f.tl ∧ ts + f.tl ≤ clock) := ⟨_, rfl⟩
    have HXp := Lib.hid hxp
    clear hxp
    obtain ⟨⟨x3, x5⟩, ⟨y12, y13, y1⟩, z1, z2⟩ := HCs.out Y (Below.refl _ _)
    go_upto_region 9 with fail
    go_cut [51] (fun c wx => c = .bool xp ∧ Hid (Below Y.heap.size Y wx))
    case first =>
      by_cases hx1 : 0 < f.tl
      · by_cases hx2 : ts + f.tl ≤ clock
        · go_quiet (fail)
          go_wp2_with fail
          go_meet
          exact ⟨by rw [HXp.out, decide_eq_true ⟨hx1, hx2⟩], ⟨rfl, rfl, rfl, Nat.le_refl _, fun _ _ => rfl⟩⟩
        · go_quiet (fail)
          go_wp2_with fail
          go_meet
          exact ⟨by rw [HXp.out, decide_eq_false (fun h => by have := h.2; omega)], ⟨rfl, rfl, rfl, Nat.le_refl _, fun _ _ => rfl⟩⟩
      · have hx3 : decide (0 < f.tl) = false := by simpa using hx1
        go_quiet (fail)
        go_wp2_with fail
        go_meet
        exact ⟨by rw [HXp.out, decide_eq_false (fun h => by have := h.1; omega)], ⟨rfl, rfl, rfl, Nat.le_refl _, fun _ _ => rfl⟩⟩
    case rest =>
    obtain ⟨rfl, HD2⟩ := hcut
    clear x3 x5 y12 y13 y1 z1 z2 D0
    have HB2 : Hid (∀ Z, Below wc.heap.size wc Z → Wk W0 wb g rb fv fs clock T Z O s vs ∧ EBox Z qb e ∧ FBx Z (qb + 1) f ∧ VBx Z (qb + 1 + 1) e 0 0 ∧ EntD.Ok Z e) := fun Z b => HB.out Z (HD2.out.trans (b.mono HD2.out.size))
    have HC2 : Hid (∀ Z, Below wc.heap.size wc Z → (Z.cell? ⟨qb, 3, none⟩ = some (.int .i64 ts) ∧ Z.cell? ⟨qb, 5, none⟩ = some (.int .i64 kd)) ∧ (Z.cell? ⟨wb, 12, none⟩ = some (.int .i64 s.mask) ∧ Z.cell? ⟨wb, 13, none⟩ = some (.int .i64 s.rank) ∧ Z.cell? ⟨wb, 1, none⟩ = some (.int .i64 clock)) ∧ Z.cell? ⟨qb + 1, 1, none⟩ = some (.int .i64 f.mx) ∧ Z.cell? ⟨qb + 1, 2, none⟩ = some (.int .i64 f.tl)) := fun Z b => HCs.out Z (HD2.out.trans (b.mono HD2.out.size))
    clear HB HCs HD2
    cases xp with
    | true =>
      have hxt : 0 < f.tl ∧ ts + f.tl ≤ clock := of_decide_eq_true HXp.out.symm
      have HXt := Lib.hid hxt
      clear hxt
      obtain ⟨k1, k2, k3, k4, k5⟩ := HB2.out wc (Below.refl _ _)
      have fz := k4.fz 7
      have cz := k4.all.2.2.2.2.2.2.2.1
      have hG : wc.grownBy ((wc.setCell ⟨qb + 1 + 1, 7, none⟩ (.int .i64 3))) (some (qb + 1 + 1)) := grown1 _ _ _ _
      have HKv := Lib.hid (k1.far HT.out hG (HQf.out _ hvq).1 (HQf.out _ hvq).2.1 (HQf.out _ hvq).2.2.1)
      have HVv : Hid (VBx ((wc.setCell ⟨qb + 1 + 1, 7, none⟩ (.int .i64 3))) (qb + 1 + 1) e 3 0) := (k4.set7 3).keep rfl
      have HOv := Lib.hid (EntD.vput k5 k4 k5 hG)
      obtain ⟨V, hV⟩ : ∃ V, V = (wc.setCell ⟨qb + 1 + 1, 7, none⟩ (.int .i64 3)) := ⟨_, rfl⟩
      rw [← hV] at HKv HVv HOv
      have HVe := Lib.hid hV
      clear hV hG k1 k2 k3 k4 k5
      go_upto_region 13 with fail
      rw [← HVe.out]
      clear fz cz HVe HB2
      have D2 : Below V.heap.size V V.drew := (Below.refl _ _).drew
      have HC := Lib.hid (HT.out.say (3) (0) (HKv.out.later HT.out D2).tell (HOv.out.later D2) HF.out hv)
      have HK2 := Lib.hid (HKv.out.later HT.out D2)
      have HV2 : Hid (VBx V.drew (qb + 1 + 1) e (3) (0)) := HVv.out.keep rfl
      have z2 := HK2.out.box.c2
      have zv := HV2.out.all
      obtain ⟨e1, e2, e3, e4, e5, e6, e7⟩ := HEE.out
      rw [e1, e2, e3, e4, e5, e6, e7] at zv
      unfold vdV at HC
      rw [e1, e2, e3, e4, e5, e6, e7] at HC
      clear e1 e2 e3 e4 e5 e6 e7
      go_region_held3 (fun Z => Z.cell? ⟨wb, 2, none⟩ = some (.func (.func g) #[.pointer (some ⟨rb, 0, none⟩)] #[]) ∧ Z.cell? ⟨qb + 1 + 1, 0, none⟩ = some (.slice ar nr cr) ∧ Z.cell? ⟨qb + 1 + 1, 1, none⟩ = some (.int .i64 fam) ∧ Z.cell? ⟨qb + 1 + 1, 2, none⟩ = some (.slice aq nq cq) ∧ Z.cell? ⟨qb + 1 + 1, 3, none⟩ = some (.int .i64 ts) ∧ Z.cell? ⟨qb + 1 + 1, 4, none⟩ = some (.int .i64 sq) ∧ Z.cell? ⟨qb + 1 + 1, 5, none⟩ = some (.int .i64 kd) ∧ Z.cell? ⟨qb + 1 + 1, 6, none⟩ = some (.slice av nv cv) ∧ Z.cell? ⟨qb + 1 + 1, 7, none⟩ = some (.int .i64 3) ∧ Z.cell? ⟨qb + 1 + 1, 8, none⟩ = some (.int .i64 0)) (first | exact ⟨K3.box.c2, zv3⟩ | exact ⟨z2, zv⟩) ((refine Calls.mono HC.out ?_; rintro z X2 ⟨rfl, O2, t2, f2⟩; have K3 := HK2.out.told t2 f2; have zv3 := (HV2.out.keep (f2.block _ HV2.out.lt (HQf.out _ (by omega)).2.1)).all; obtain ⟨e1, e2, e3, e4, e5, e6, e7⟩ := HEE.out; rw [e1, e2, e3, e4, e5, e6, e7] at zv3; clear e1 e2 e3 e4 e5 e6 e7))
      have HK := Lib.hid K3
      clear K3 zv3 t2 f2 z2 zv D2
      go_wp2
      go_end0
      refine ⟨rfl, O2, s, ?_, ?_, rfl⟩
      · have q1 : (decideS (fs.map fun f => (f.mx, f.tl)) clock s.dat e.dat).1 = ⟨e.dat, 3, 0⟩ := by unfold decideS; rw [HSd.out.1, HSd.out.2.1, if_neg (Int.not_le.2 HM0.out), HSd.out.2.2.2.2, if_pos HXt.out]
        rw [q1]; exact HK.out
      · unfold decideS; rw [HSd.out.1, HSd.out.2.1, if_neg (Int.not_le.2 HM0.out), HSd.out.2.2.2.2, if_pos HXt.out]
    | false =>
      have hxt : ¬ (0 < f.tl ∧ ts + f.tl ≤ clock) := of_decide_eq_false HXp.out.symm
      have HXt := Lib.hid hxt
      clear hxt
      obtain ⟨⟨x3, x5⟩, ⟨y12, y13, y1⟩, z1, z2⟩ := HC2.out wc (Below.refl _ _)
      by_cases hk : kd = 3
      · have hkb : (kd == 3) = true := by simp [hk]
        have HKk := Lib.hid hk
        clear hk
        obtain ⟨k1, k2, k3, k4, k5⟩ := HB2.out wc (Below.refl _ _)
        have fz := k4.fz 7
        have cz := k4.all.2.2.2.2.2.2.2.1
        have hG : wc.grownBy ((wc.setCell ⟨qb + 1 + 1, 7, none⟩ (.int .i64 6))) (some (qb + 1 + 1)) := grown1 _ _ _ _
        have HKv := Lib.hid (k1.far HT.out hG (HQf.out _ hvq).1 (HQf.out _ hvq).2.1 (HQf.out _ hvq).2.2.1)
        have HVv : Hid (VBx ((wc.setCell ⟨qb + 1 + 1, 7, none⟩ (.int .i64 6))) (qb + 1 + 1) e 6 0) := (k4.set7 6).keep rfl
        have HOv := Lib.hid (EntD.vput k5 k4 k5 hG)
        obtain ⟨V, hV⟩ : ∃ V, V = (wc.setCell ⟨qb + 1 + 1, 7, none⟩ (.int .i64 6)) := ⟨_, rfl⟩
        rw [← hV] at HKv HVv HOv
        have HVe := Lib.hid hV
        clear hV hG k1 k2 k3 k4 k5
        go_upto_region 13 with fail
        rw [← HVe.out]
        clear fz cz HVe HB2 x3 x5 y12 y13 y1 z1 z2 HC2
        have D2 : Below V.heap.size V V.drew := (Below.refl _ _).drew
        have HC := Lib.hid (HT.out.say (6) (0) (HKv.out.later HT.out D2).tell (HOv.out.later D2) HF.out hv)
        have HK2 := Lib.hid (HKv.out.later HT.out D2)
        have HV2 : Hid (VBx V.drew (qb + 1 + 1) e (6) (0)) := HVv.out.keep rfl
        have z2 := HK2.out.box.c2
        have zv := HV2.out.all
        obtain ⟨e1, e2, e3, e4, e5, e6, e7⟩ := HEE.out
        rw [e1, e2, e3, e4, e5, e6, e7] at zv
        unfold vdV at HC
        rw [e1, e2, e3, e4, e5, e6, e7] at HC
        clear e1 e2 e3 e4 e5 e6 e7
        go_region_held3 (fun Z => Z.cell? ⟨wb, 2, none⟩ = some (.func (.func g) #[.pointer (some ⟨rb, 0, none⟩)] #[]) ∧ Z.cell? ⟨qb + 1 + 1, 0, none⟩ = some (.slice ar nr cr) ∧ Z.cell? ⟨qb + 1 + 1, 1, none⟩ = some (.int .i64 fam) ∧ Z.cell? ⟨qb + 1 + 1, 2, none⟩ = some (.slice aq nq cq) ∧ Z.cell? ⟨qb + 1 + 1, 3, none⟩ = some (.int .i64 ts) ∧ Z.cell? ⟨qb + 1 + 1, 4, none⟩ = some (.int .i64 sq) ∧ Z.cell? ⟨qb + 1 + 1, 5, none⟩ = some (.int .i64 kd) ∧ Z.cell? ⟨qb + 1 + 1, 6, none⟩ = some (.slice av nv cv) ∧ Z.cell? ⟨qb + 1 + 1, 7, none⟩ = some (.int .i64 6) ∧ Z.cell? ⟨qb + 1 + 1, 8, none⟩ = some (.int .i64 0)) (first | exact ⟨K3.box.c2, zv3⟩ | exact ⟨z2, zv⟩) ((refine Calls.mono HC.out ?_; rintro z X2 ⟨rfl, O2, t2, f2⟩; have K3 := HK2.out.told t2 f2; have zv3 := (HV2.out.keep (f2.block _ HV2.out.lt (HQf.out _ (by omega)).2.1)).all; obtain ⟨e1, e2, e3, e4, e5, e6, e7⟩ := HEE.out; rw [e1, e2, e3, e4, e5, e6, e7] at zv3; clear e1 e2 e3 e4 e5 e6 e7))
        have HK := Lib.hid K3
        clear K3 zv3 t2 f2 z2 zv D2
        go_wp2
        go_end0
        refine ⟨rfl, O2, s, ?_, ?_, rfl⟩
        · have q1 : (decideS (fs.map fun f => (f.mx, f.tl)) clock s.dat e.dat).1 = ⟨e.dat, 6, 0⟩ := by unfold decideS; rw [HSd.out.1, HSd.out.2.1, if_neg (Int.not_le.2 HM0.out), HSd.out.2.2.2.2, if_neg HXt.out, HSd.out.2.2.1, if_pos HKk.out]
          rw [q1]; exact HK.out
        · unfold decideS; rw [HSd.out.1, HSd.out.2.1, if_neg (Int.not_le.2 HM0.out), HSd.out.2.2.2.2, if_neg HXt.out, HSd.out.2.2.1, if_pos HKk.out]
      · have hkb : (kd == 3) = false := by simp [hk]
        have HKk := Lib.hid hk
        clear hk
        obtain ⟨k1, k2, k3, k4, k5⟩ := HB2.out wc (Below.refl _ _)
        have f13 := k1.box.fz 13
        have hG : wc.grownBy (wc.setCell ⟨wb, 13, none⟩ (.int .i64 (s.rank + 1))) (some wb) := grown1 _ _ _ _
        have K1 := k1.put HT.out (k1.box.setRank (s.rank + 1)) hG rfl ⟨by show 0 ≤ s.rank + 1; omega, by show s.rank + 1 ≤ vs.length + 1; omega⟩ k1.mask k1.wait
        have hb1 : ∀ q, qb ≤ q → q < wc.heap.size → (wc.setCell ⟨wb, 13, none⟩ (.int .i64 (s.rank + 1))).heap[q]? = wc.heap[q]? := fun q hq hl => hG.block q hl (fun z => (HQf.out q hq).2.2.2 (by cases z; rfl))
        have F1 := k3.keep (hb1 _ (by omega) k3.lt)
        have V1 := k4.keep (hb1 _ (by omega) k4.lt)
        have O1 := k1.ent k5 hG
        obtain ⟨P1, hP1⟩ : ∃ P1, P1 = wc.setCell ⟨wb, 13, none⟩ (.int .i64 (s.rank + 1)) := ⟨_, rfl⟩
        rw [← hP1] at K1 F1 V1 O1
        have HP1 := Lib.hid hP1
        clear hP1 hG hb1
        go_upto_region 4 with fail
        rw [← HP1.out]
        have HK1 := Lib.hid K1
        have HF1 := Lib.hid F1
        have HV1 := Lib.hid V1
        have HO1 := Lib.hid O1
        clear x3 x5 y12 y13 y1 z1 z2 k1 k2 k3 k4 k5 K1 F1 V1 O1 f13 HP1 HB2 HC2
        have y13 := HK1.out.box.c13
        have v7 := HV1.out.all.2.2.2.2.2.2.2.1
        have v8 := HV1.out.all.2.2.2.2.2.2.2.2
        have g7 := HV1.out.fz 7
        have g8 := HV1.out.fz 8
        simp only at y13
        go_region
        have hG : P1.grownBy (((P1.setCell ⟨qb + 1 + 1, 7, none⟩ (.int .i64 5)).setCell ⟨qb + 1 + 1, 8, none⟩ (.int .i64 (s.rank + 1))).drew) (some (qb + 1 + 1)) := (grown2 _ _ _ _ _ _).drew
        have K2 := HK1.out.far HT.out hG (HQf.out _ hvq).1 (HQf.out _ hvq).2.1 (HQf.out _ hvq).2.2.1
        have V2 : VBx (((P1.setCell ⟨qb + 1 + 1, 7, none⟩ (.int .i64 5)).setCell ⟨qb + 1 + 1, 8, none⟩ (.int .i64 (s.rank + 1))).drew) (qb + 1 + 1) e 5 (s.rank + 1) := ((HV1.out.set7 5).set8 (s.rank + 1)).keep rfl
        have F2 := HF1.out.keep (hG.block _ HF1.out.lt (fun z => by simp only [Option.some.injEq] at z; omega))
        have O2 := EntD.vput HO1.out HV1.out HO1.out hG
        obtain ⟨P2, hP2⟩ : ∃ P2, P2 = ((P1.setCell ⟨qb + 1 + 1, 7, none⟩ (.int .i64 5)).setCell ⟨qb + 1 + 1, 8, none⟩ (.int .i64 (s.rank + 1))).drew := ⟨_, rfl⟩
        rw [← hP2] at K2 V2 F2 O2
        have HP2 := Lib.hid hP2
        clear hP2 hG y13 v7 v8 g7 g8
        go_upto_region 5 with fail
        rw [← HP2.out]
        have HK2 := Lib.hid K2
        have HF2 := Lib.hid F2
        have HV2 := Lib.hid V2
        have HO2 := Lib.hid O2
        clear K2 V2 F2 O2 HP2 HK1 HF1 HV1 HO1
        have y13 := HK2.out.box.c13
        simp only at y13
        have w1 := HF2.out.c1
        have D5 : Below P2.heap.size P2 P2.drew := (Below.refl _ _).drew
        have HKa : Hid (f.mx < s.rank + 1 ∨ ¬ f.mx < s.rank + 1) := Decidable.em _
        rcases HKa.out with hab | hab
        · go_region_held3 (fun Z => Z.cell? ⟨wb, 13, none⟩ = some (.int .i64 (s.rank + 1)) ∧ Z.cell? ⟨qb + 1, 1, none⟩ = some (.int .i64 f.mx)) (first | exact ⟨y13, w1⟩) (fail)
          clear y13 w1
          have HAb : Hid (f.mx < s.rank + 1) := hab
          have fz := HV2.out.fz 7
          have cz := HV2.out.all.2.2.2.2.2.2.2.1
          have hG : P2.grownBy ((P2.setCell ⟨qb + 1 + 1, 7, none⟩ (.int .i64 4)).drew) (some (qb + 1 + 1)) := (grown1 _ _ _ _).drew
          have HKv := Lib.hid (HK2.out.far HT.out hG (HQf.out _ hvq).1 (HQf.out _ hvq).2.1 (HQf.out _ hvq).2.2.1)
          have HVv : Hid (VBx ((P2.setCell ⟨qb + 1 + 1, 7, none⟩ (.int .i64 4)).drew) (qb + 1 + 1) e 4 (s.rank + 1)) := (HV2.out.set7 4).keep rfl
          have HOv := Lib.hid (EntD.vput HO2.out HV2.out HO2.out hG)
          obtain ⟨V, hV⟩ : ∃ V, V = (P2.setCell ⟨qb + 1 + 1, 7, none⟩ (.int .i64 4)).drew := ⟨_, rfl⟩
          rw [← hV] at HKv HVv HOv
          have HVe := Lib.hid hV
          clear hV hG
          go_upto_region 13 with fail
          rw [← HVe.out]
          clear fz cz HVe HK2 HF2 HV2 HO2 D5
          have D2 : Below V.heap.size V V.drew := (Below.refl _ _).drew
          have HC := Lib.hid (HT.out.say (4) ((s.rank + 1)) (HKv.out.later HT.out D2).tell (HOv.out.later D2) HF.out hv)
          have HK2 := Lib.hid (HKv.out.later HT.out D2)
          have HV2 : Hid (VBx V.drew (qb + 1 + 1) e (4) ((s.rank + 1))) := HVv.out.keep rfl
          have z2 := HK2.out.box.c2
          have zv := HV2.out.all
          obtain ⟨e1, e2, e3, e4, e5, e6, e7⟩ := HEE.out
          rw [e1, e2, e3, e4, e5, e6, e7] at zv
          unfold vdV at HC
          rw [e1, e2, e3, e4, e5, e6, e7] at HC
          clear e1 e2 e3 e4 e5 e6 e7
          go_region_held3 (fun Z => Z.cell? ⟨wb, 2, none⟩ = some (.func (.func g) #[.pointer (some ⟨rb, 0, none⟩)] #[]) ∧ Z.cell? ⟨qb + 1 + 1, 0, none⟩ = some (.slice ar nr cr) ∧ Z.cell? ⟨qb + 1 + 1, 1, none⟩ = some (.int .i64 fam) ∧ Z.cell? ⟨qb + 1 + 1, 2, none⟩ = some (.slice aq nq cq) ∧ Z.cell? ⟨qb + 1 + 1, 3, none⟩ = some (.int .i64 ts) ∧ Z.cell? ⟨qb + 1 + 1, 4, none⟩ = some (.int .i64 sq) ∧ Z.cell? ⟨qb + 1 + 1, 5, none⟩ = some (.int .i64 kd) ∧ Z.cell? ⟨qb + 1 + 1, 6, none⟩ = some (.slice av nv cv) ∧ Z.cell? ⟨qb + 1 + 1, 7, none⟩ = some (.int .i64 4) ∧ Z.cell? ⟨qb + 1 + 1, 8, none⟩ = some (.int .i64 (s.rank + 1))) (first | exact ⟨K3.box.c2, zv3⟩ | exact ⟨z2, zv⟩) ((refine Calls.mono HC.out ?_; rintro z X2 ⟨rfl, O2, t2, f2⟩; have K3 := HK2.out.told t2 f2; have zv3 := (HV2.out.keep (f2.block _ HV2.out.lt (HQf.out _ (by omega)).2.1)).all; obtain ⟨e1, e2, e3, e4, e5, e6, e7⟩ := HEE.out; rw [e1, e2, e3, e4, e5, e6, e7] at zv3; clear e1 e2 e3 e4 e5 e6 e7))
          have HK := Lib.hid K3
          clear K3 zv3 t2 f2 z2 zv D2
          go_wp2
          go_end0
          refine ⟨rfl, O2, { s with rank := s.rank + 1 }, ?_, ?_, rfl⟩
          · have q1 : (decideS (fs.map fun f => (f.mx, f.tl)) clock s.dat e.dat).1 = ⟨e.dat, 4, (s.rank + 1)⟩ := by unfold decideS; rw [HSd.out.1, HSd.out.2.1, if_neg (Int.not_le.2 HM0.out), HSd.out.2.2.2.2, if_neg HXt.out, HSd.out.2.2.1, if_neg HKk.out, if_pos (show f.mx < s.dat.rank + 1 from HAb.out)]; try rfl
            rw [q1]; exact HK.out
          · unfold decideS; rw [HSd.out.1, HSd.out.2.1, if_neg (Int.not_le.2 HM0.out), HSd.out.2.2.2.2, if_neg HXt.out, HSd.out.2.2.1, if_neg HKk.out, if_pos (show f.mx < s.dat.rank + 1 from HAb.out)]; try rfl
        · go_region_held3 (fun Z => Z.cell? ⟨wb, 13, none⟩ = some (.int .i64 (s.rank + 1)) ∧ Z.cell? ⟨qb + 1, 1, none⟩ = some (.int .i64 f.mx)) (first | exact ⟨y13, w1⟩) (fail)
          clear y13 w1
          have HAb : Hid (¬ f.mx < s.rank + 1) := by unfold Hid; omega
          have HKv := Lib.hid (HK2.out.later HT.out D5)
          have HVv : Hid (VBx P2.drew (qb + 1 + 1) e 5 (s.rank + 1)) := HV2.out.keep rfl
          have HOv := Lib.hid (HO2.out.later D5)
          obtain ⟨V, hV⟩ : ∃ V, V = P2.drew := ⟨_, rfl⟩
          rw [← hV] at HKv HVv HOv
          have HVe := Lib.hid hV
          clear hV
          go_upto_region 13 with fail
          rw [← HVe.out]
          clear HVe HK2 HF2 HV2 HO2 D5
          have D2 : Below V.heap.size V V.drew := (Below.refl _ _).drew
          have HC := Lib.hid (HT.out.say (5) ((s.rank + 1)) (HKv.out.later HT.out D2).tell (HOv.out.later D2) HF.out hv)
          have HK2 := Lib.hid (HKv.out.later HT.out D2)
          have HV2 : Hid (VBx V.drew (qb + 1 + 1) e (5) ((s.rank + 1))) := HVv.out.keep rfl
          have z2 := HK2.out.box.c2
          have zv := HV2.out.all
          obtain ⟨e1, e2, e3, e4, e5, e6, e7⟩ := HEE.out
          rw [e1, e2, e3, e4, e5, e6, e7] at zv
          unfold vdV at HC
          rw [e1, e2, e3, e4, e5, e6, e7] at HC
          clear e1 e2 e3 e4 e5 e6 e7
          go_region_held3 (fun Z => Z.cell? ⟨wb, 2, none⟩ = some (.func (.func g) #[.pointer (some ⟨rb, 0, none⟩)] #[]) ∧ Z.cell? ⟨qb + 1 + 1, 0, none⟩ = some (.slice ar nr cr) ∧ Z.cell? ⟨qb + 1 + 1, 1, none⟩ = some (.int .i64 fam) ∧ Z.cell? ⟨qb + 1 + 1, 2, none⟩ = some (.slice aq nq cq) ∧ Z.cell? ⟨qb + 1 + 1, 3, none⟩ = some (.int .i64 ts) ∧ Z.cell? ⟨qb + 1 + 1, 4, none⟩ = some (.int .i64 sq) ∧ Z.cell? ⟨qb + 1 + 1, 5, none⟩ = some (.int .i64 kd) ∧ Z.cell? ⟨qb + 1 + 1, 6, none⟩ = some (.slice av nv cv) ∧ Z.cell? ⟨qb + 1 + 1, 7, none⟩ = some (.int .i64 5) ∧ Z.cell? ⟨qb + 1 + 1, 8, none⟩ = some (.int .i64 (s.rank + 1))) (first | exact ⟨K3.box.c2, zv3⟩ | exact ⟨z2, zv⟩) ((refine Calls.mono HC.out ?_; rintro z X2 ⟨rfl, O2, t2, f2⟩; have K3 := HK2.out.told t2 f2; have zv3 := (HV2.out.keep (f2.block _ HV2.out.lt (HQf.out _ (by omega)).2.1)).all; obtain ⟨e1, e2, e3, e4, e5, e6, e7⟩ := HEE.out; rw [e1, e2, e3, e4, e5, e6, e7] at zv3; clear e1 e2 e3 e4 e5 e6 e7))
          have HK := Lib.hid K3
          clear K3 zv3 t2 f2 z2 zv D2
          go_wp2
          go_end0
          refine ⟨rfl, O2, { s with rank := s.rank + 1 }, ?_, ?_, rfl⟩
          · have q1 : (decideS (fs.map fun f => (f.mx, f.tl)) clock s.dat e.dat).1 = ⟨e.dat, 5, (s.rank + 1)⟩ := by unfold decideS; rw [HSd.out.1, HSd.out.2.1, if_neg (Int.not_le.2 HM0.out), HSd.out.2.2.2.2, if_neg HXt.out, HSd.out.2.2.1, if_neg HKk.out, if_neg (show ¬ f.mx < s.dat.rank + 1 from Int.not_lt.2 HAb.out)]; try rfl
            rw [q1]; exact HK.out
          · unfold decideS; rw [HSd.out.1, HSd.out.2.1, if_neg (Int.not_le.2 HM0.out), HSd.out.2.2.2.2, if_neg HXt.out, HSd.out.2.2.1, if_neg HKk.out, if_neg (show ¬ f.mx < s.dat.rank + 1 from Int.not_lt.2 HAb.out)]; try rfl
end Go.Proofs.YthhkpkfpifllkaaGreat

namespace Go.Proofs.YthhkpkfpifllkaaGreat
open Go.RowKit
set_option linter.unusedVariables false
variable {W0 : Base} {W : World} {wb g rb : Nat} {fv : Value} {fs : List FamD} {clock : Int} {T : World → (Nat → Prop) → List Vd → Prop} {O : Nat → Prop} {s : SpD} {vs : List Vd} {e : EntD}
def Goes (W0 : Base) (wb g rb : Nat) (fv : Value) (fs : List FamD) (clock : Int) (T : World → (Nat → Prop) → List Vd → Prop) (vs : List Vd) (t : Sp) (l : EntD) (r : Ending) (W' : World) : Prop := r = .returned (.tuple #[]) ∧ ∃ O' s', Wk W0 wb g rb fv fs clock T W' O' s' vs ∧ s'.dat = t ∧ s'.last = l
def mt (fs : List FamD) : List (Int × Int) := fs.map fun f => (f.mx, f.tl)

set_option maxRecDepth 100000 in
set_option maxHeartbeats 4000000 in
theorem resolve_any (ht : Teller g rb T) (h : Wk W0 wb g rb fv fs clock T W O s vs) (hv : vs.length < 1353245080339) (hfs : ∀ f ∈ fs, 0 ≤ f.tl ∧ f.tl ≤ 1099511627776) (hr : s.rank ≤ vs.length) (hwb : s.waiting = true → s.begun = true) (kind : Int) :
    Calls Tryz.prog 122 #[.pointer (some ⟨wb, 0, none⟩), .int .i64 kind] W (Goes W0 wb g rb fv fs clock T (vs ++ (resolveS (mt fs) clock s.dat kind).1) (resolveS (mt fs) clock s.dat kind).2 s.last) := by
  by_cases hw : s.waiting = true
  · have hFit := h.wait (hwb hw)
    have hok := h.ok
    obtain ⟨aL, nL, cL, eL⟩ := rd_slice hok.1
    obtain ⟨aQ, nQ, cQ, eQ⟩ := rd_slice hok.2.1
    obtain ⟨aV, nV, cV, eV⟩ := rd_slice hok.2.2
    have HEL := Lib.hid (And.intro eL (And.intro eQ eV))
    have K1 := h.put ht (h.box.setWaiting false) (grown1 _ _ _ _) rfl h.rank h.mask h.wait
    obtain ⟨Y, hY⟩ : ∃ Y, Y = W.setCell ⟨wb, 14, none⟩ (.bool false) := ⟨_, rfl⟩
    rw [← hY] at K1
    have HY := Lib.hid hY
    have c14 := h.box.c14
    have f14 := h.box.fz 14
    rw [hw] at c14
    obtain ⟨D, hD⟩ : ∃ D : EntD, D = { s.last with seq := s.seq, kind := kind } := ⟨_, rfl⟩
    have HD := Lib.hid hD
    have HT := Lib.hid ht
    have HW := Lib.hid hw
    have HFit : Hid (Fit fs.length D.dat) := by
      unfold Hid; rw [hD]
      exact ⟨hFit.row, hFit.qual, hFit.val, hFit.ts0, hFit.ts, hFit.fam0, hFit.fam⟩
    have HK1 := Lib.hid K1
    have HFs := Lib.hid hfs
    clear hY h hw hwb hok hFit K1 hD ht hfs eL eQ eV
    go_enter Tryz.func122, Tryz.ntmps122
    go_upto_region 2 with fail
    rw [← HY.out]
    clear c14 f14 HY
    have l7 := HK1.out.box.last7
    have c15 := HK1.out.box.c15
    obtain ⟨e1, e2, e3⟩ := HEL.out
    simp only at l7 c15
    rw [e1, e2, e3] at l7
    obtain ⟨l0, l1, l2, l3, l4, l5, l6⟩ := l7
    have A := (Below.refl Y.heap.size Y).alloc (Nat.le_refl _) (.cells #[.slice aL nL cL, .int .i64 s.last.fam, .slice aQ nQ cQ, .int .i64 s.last.ts, .int .i64 s.seq, .int .i64 kind, .slice aV nV cV] 84)
    have HC : Hid (Calls Tryz.prog 123 #[.pointer (some ⟨wb, 0, none⟩), .agg #[.slice aL nL cL, .int .i64 s.last.fam, .slice aQ nQ cQ, .int .i64 s.last.ts, .int .i64 s.seq, .int .i64 kind, .slice aV nV cV]] (Y.alloc (.cells #[.slice aL nL cL, .int .i64 s.last.fam, .slice aQ nQ cQ, .int .i64 s.last.ts, .int .i64 s.seq, .int .i64 kind, .slice aV nV cV] 84)) (Goes W0 wb g rb fv fs clock T (vs ++ [(decideS (mt fs) clock { s.dat with waiting := false } D.dat).1]) (decideS (mt fs) clock { s.dat with waiting := false } D.dat).2 s.last)) := by
      have k := decide_any HT.out (HK1.out.later HT.out A) (e := D) (by rw [HD.out]; exact (HK1.out.later HT.out A).ok) HFit.out hv HFs.out hr
      have ec : D.cells = #[.slice aL nL cL, .int .i64 s.last.fam, .slice aQ nQ cQ, .int .i64 s.last.ts, .int .i64 s.seq, .int .i64 kind, .slice aV nV cV] := by rw [HD.out]; unfold EntD.cells; simp only; rw [e1, e2, e3]
      rw [ec] at k
      exact k
    clear e1 e2 e3 A
    have hlt : wb < Y.heap.size := HK1.out.box.lt
    go_wp2_with fail
    refine Calls.mono HC.out ?_
    rintro z X2 ⟨rfl, O2, s2, K2, d2, l2'⟩
    have HK2 := Lib.hid (And.intro K2 (And.intro d2 l2'))
    clear l0 l1 l2 l3 l4 l5 l6 c15 K2 d2 l2' HC
    go_wp2
    go_end0
    obtain ⟨K2, d2, l2⟩ := HK2.out
    have ed : D.dat = { s.dat.last with seq := s.dat.seq, kind := kind } := by rw [HD.out]; rfl
    have eR : resolveS (mt fs) clock s.dat kind = ([(decideS (mt fs) clock { s.dat with waiting := false } D.dat).1], (decideS (mt fs) clock { s.dat with waiting := false } D.dat).2) := by
      unfold resolveS
      rw [if_pos (show s.dat.waiting = true from HW.out), ed]
    rw [eR]
    exact ⟨rfl, O2, s2, K2, d2, l2⟩
  · have hw2 : s.waiting = false := by simpa using hw
    have c14 := h.box.c14
    rw [hw2] at c14
    have HW := Lib.hid hw2
    have HK := Lib.hid h
    clear hw hw2 h hwb
    go_enter Tryz.func122, Tryz.ntmps122
    go_wp2
    refine bodyPost_ret (results_none rfl _ _ _) rfl ?_
    have eR : resolveS (mt fs) clock s.dat kind = ([], s.dat) := by
      unfold resolveS
      rw [if_neg (show ¬ s.dat.waiting = true from by show ¬ s.waiting = true; rw [HW.out]; simp)]
    rw [eR]
    exact ⟨rfl, O, s, by simpa using HK.out, rfl, rfl⟩
end Go.Proofs.YthhkpkfpifllkaaGreat

namespace Go.Proofs.YthhkpkfpifllkaaGreat
open Go.RowKit
set_option linter.unusedVariables false
variable {W0 : Base} {W : World} {wb g rb : Nat} {fv : Value} {fs : List FamD} {clock : Int} {T : World → (Nat → Prop) → List Vd → Prop} {O : Nat → Prop} {s : SpD} {vs : List Vd} {e : EntD}
def GoesB (W0 : Base) (wb g rb : Nat) (fv : Value) (fs : List FamD) (clock : Int) (T : World → (Nat → Prop) → List Vd → Prop) (b : Bool) (vs : List Vd) (t : Sp) (l : EntD) (r : Ending) (W' : World) : Prop := r = .returned (.bool b) ∧ ∃ O' s', Wk W0 wb g rb fv fs clock T W' O' s' vs ∧ s'.dat = t ∧ s'.last = l
theorem below_dn {X X1 : World} (h : Below X.heap.size X X1) (n : Nat) : Below X.heap.size X (X1.drewN n) := ⟨h.os, h.tape, h.output, h.size, h.block⟩
theorem below_rfl {W W' : World} (h1 : W'.os = W.os) (h2 : W'.tape = W.tape) (h3 : W'.output = W.output) (h4 : W'.heap = W.heap) : Below W.heap.size W W' := ⟨h1, h2, h3, by rw [h4]; exact Nat.le_refl _, fun k _ => by rw [h4]⟩

set_option maxRecDepth 100000 in
set_option maxHeartbeats 4000000 in
theorem enter_any (ht : Teller g rb T) (h : Wk W0 wb g rb fv fs clock T W O s vs) (he : EntD.Ok W e) (hv : vs.length < 1353245080339) (hfs : ∀ f ∈ fs, 0 ≤ f.tl ∧ f.tl ≤ 1099511627776) (hr : s.rank ≤ vs.length) (hwb : s.waiting = true → s.begun = true) :
    Calls Tryz.prog 120 #[.pointer (some ⟨wb, 0, none⟩), .agg e.cells] W (GoesB W0 wb g rb fv fs clock T (sameGrp s.dat e.dat) (vs ++ (enterS (mt fs) clock s.dat e.dat).1) (enterS (mt fs) clock s.dat e.dat).2 s.last) := by
  have A := (Below.refl W.heap.size W).alloc (Nat.le_refl _) (.cells e.cells 84)
  have eb := EBox.new W e
  have h1 := h.later ht A
  have he1 := he.later A
  obtain ⟨X, hX⟩ : ∃ X, X = W.alloc (.cells e.cells 84) := ⟨_, rfl⟩
  rw [← hX] at eb h1 he1
  have HX := Lib.hid hX
  have HT := Lib.hid ht
  have HFs := Lib.hid hfs
  have HWb := Lib.hid hwb
  clear hwb
  obtain ⟨qb, hqb⟩ : ∃ q, q = W.heap.size := ⟨_, rfl⟩
  have hqb' := hqb.symm
  rw [← hqb] at eb
  have HU : Hid (∀ Z, Below X.heap.size X Z → Wk W0 wb g rb fv fs clock T Z O s vs ∧ EBox Z qb e ∧ EntD.Ok Z e) := fun Z b => ⟨h1.later ht b, eb.later b, he1.later b⟩
  have HCs : Hid (∀ Z, Below X.heap.size X Z → (Z.cell? ⟨wb, 3, none⟩ = some (.bool s.begun) ∧ Z.cell? ⟨wb, 4, none⟩ = some s.last.vr ∧ Z.cell? ⟨wb, 5, none⟩ = some (.int .i64 s.last.fam) ∧ Z.cell? ⟨wb, 6, none⟩ = some s.last.vq ∧ Z.cell? ⟨wb, 7, none⟩ = some (.int .i64 s.last.ts) ∧ Z.cell? ⟨wb, 9, none⟩ = some (.int .i64 s.last.kind)) ∧ Z.cell? ⟨qb, 0, none⟩ = some e.vr ∧ Z.cell? ⟨qb, 1, none⟩ = some (.int .i64 e.fam) ∧ Z.cell? ⟨qb, 2, none⟩ = some e.vq ∧ Z.cell? ⟨qb, 3, none⟩ = some (.int .i64 e.ts)) := fun Z b => by
    obtain ⟨k1, k2, k3⟩ := HU.out Z b
    have l := k1.box.last7
    exact ⟨⟨k1.box.c3, l.1, l.2.1, l.2.2.1, l.2.2.2.1, l.2.2.2.2.2.1⟩, k2.vr, k2.fam, k2.vq, k2.ts⟩
  have HEq1 : Hid (∀ Z, Below X.heap.size X Z → Calls Tryz.prog 126 #[s.last.vr, e.vr] Z fun r w' => r = .returned (.bool (decide (s.last.row = e.row))) ∧ w' = Z) := fun Z b => equal_any (HU.out Z b).1.ok.1 (HU.out Z b).2.2.1
  have HEq2 : Hid (∀ Z, Below X.heap.size X Z → Calls Tryz.prog 126 #[s.last.vq, e.vq] Z fun r w' => r = .returned (.bool (decide (s.last.qual = e.qual))) ∧ w' = Z) := fun Z b => equal_any (HU.out Z b).1.ok.2.1 (HU.out Z b).2.2.2.1
  obtain ⟨fB, hfB⟩ : ∃ b, b = sameFam s.dat e.dat := ⟨_, rfl⟩
  obtain ⟨cB, hcB⟩ : ∃ b, b = sameCol s.dat e.dat := ⟨_, rfl⟩
  obtain ⟨gB, hgB⟩ : ∃ b, b = sameGrp s.dat e.dat := ⟨_, rfl⟩
  have HfB := Lib.hid hfB
  have HcB := Lib.hid hcB
  have HgB := Lib.hid hgB
  rw [← hgB]
  unfold EntD.cells at HX ⊢
  clear ht h he A hX eb h1 he1 hqb hfs hfB hcB hgB
  go_enter Tryz.func120, Tryz.ntmps120
  go_upto_region 1 with fail
  rw [← HX.out]
  (try rw [hqb'])
  clear hqb' HX
  go_cut [5] (fun c wx => c = .bool fB ∧ Hid (Below X.heap.size X wx))
  case first =>
    obtain ⟨⟨x3, x4, x5, x6, x7, x9⟩, y0, y1, y2, y3⟩ := HCs.out X (Below.refl _ _)
    by_cases hb : s.begun = true
    · rw [hb] at x3
      by_cases hf : s.last.fam = e.fam
      · have hfb : (s.last.fam == e.fam) = true := by simp [hf]
        have HF2 := Lib.hid hf
        clear hf
        go_quiet ((go_at_call 126; exact Calls.quiet_of_same (HEq1.out _ (below_rfl rfl rfl rfl rfl))))
        go_wp2_with fail
        go_meet
        refine ⟨?_, below_rfl rfl rfl rfl rfl⟩
        rw [HfB.out]
        show _ = Value.bool (s.begun && decide (s.last.fam = e.fam) && decide (s.last.row = e.row))
        rw [hb, decide_eq_true HF2.out]
        simp
      · have hfb : (s.last.fam == e.fam) = false := by simp [hf]
        have HF2 := Lib.hid hf
        clear hf
        go_quiet (fail)
        go_wp2_with fail
        go_meet
        refine ⟨?_, below_rfl rfl rfl rfl rfl⟩
        rw [HfB.out]
        show _ = Value.bool (s.begun && decide (s.last.fam = e.fam) && decide (s.last.row = e.row))
        rw [decide_eq_false HF2.out]
        simp
    · have hb2 : s.begun = false := by simpa using hb
      rw [hb2] at x3
      go_quiet (fail)
      go_wp2_with fail
      go_meet
      refine ⟨?_, below_rfl rfl rfl rfl rfl⟩
      rw [HfB.out]
      show _ = Value.bool (s.begun && decide (s.last.fam = e.fam) && decide (s.last.row = e.row))
      rw [hb2]
      simp
  case rest =>
  obtain ⟨rfl, HD1⟩ := hcut
  obtain ⟨X1, hX1⟩ : ∃ X1, X1 = wc := ⟨_, rfl⟩
  subst hX1
  go_upto_region 2 with fail
  go_cut [6] (fun c wx => c = .bool cB ∧ Hid (Below X.heap.size X wx))
  case first =>
    obtain ⟨⟨x3, x4, x5, x6, x7, x9⟩, y0, y1, y2, y3⟩ := HCs.out X1 HD1.out
    cases fB with
    | false =>
      go_quiet (fail)
      go_wp2_with fail
      go_meet
      refine ⟨?_, below_dn HD1.out _⟩
      rw [HcB.out]
      show _ = Value.bool (sameFam s.dat e.dat && decide (s.last.kind ≠ 5) && decide (s.last.qual = e.qual))
      rw [← HfB.out]
      simp
    | true =>
      by_cases hk : s.last.kind = 5
      · have hkb : (s.last.kind != 5) = false := by simp [hk]
        have hkb2 : (s.last.kind == 5) = true := by simp [hk]
        have HK5 := Lib.hid hk
        clear hk
        go_quiet (fail)
        go_wp2_with fail
        go_meet
        refine ⟨?_, below_dn HD1.out _⟩
        rw [HcB.out]
        show _ = Value.bool (sameFam s.dat e.dat && decide (s.last.kind ≠ 5) && decide (s.last.qual = e.qual))
        rw [decide_eq_false (fun h => h HK5.out)]
        simp
      · have hkb : (s.last.kind != 5) = true := by simp [hk]
        have hkb2 : (s.last.kind == 5) = false := by simp [hk]
        have HK5 := Lib.hid hk
        clear hk
        go_quiet ((go_at_call 126; exact Calls.quiet_of_same (HEq2.out _ (below_dn HD1.out _))))
        go_wp2_with fail
        go_meet
        refine ⟨?_, below_dn HD1.out _⟩
        rw [HcB.out]
        show _ = Value.bool (sameFam s.dat e.dat && decide (s.last.kind ≠ 5) && decide (s.last.qual = e.qual))
        rw [← HfB.out, decide_eq_true HK5.out]
        simp
  case rest =>
  obtain ⟨rfl, HD2⟩ := hcut
  obtain ⟨X2, hX2⟩ : ∃ X2, X2 = wc := ⟨_, rfl⟩
  subst hX2
  clear HD1
  go_upto_region 3 with fail
  go_cut [75] (fun c wx => c = .bool gB ∧ Hid (Below X.heap.size X wx))
  case first =>
    obtain ⟨⟨x3, x4, x5, x6, x7, x9⟩, y0, y1, y2, y3⟩ := HCs.out X2 HD2.out
    cases cB with
    | false =>
      go_quiet (fail)
      go_wp2_with fail
      go_meet
      refine ⟨?_, below_dn HD2.out _⟩
      rw [HgB.out]
      show _ = Value.bool (sameCol s.dat e.dat && decide (s.last.kind ≠ 4) && decide (s.last.ts = e.ts))
      rw [← HcB.out]
      simp
    | true =>
      by_cases hk : s.last.kind = 4
      · have hkb : (s.last.kind != 4) = false := by simp [hk]
        have hkb2 : (s.last.kind == 4) = true := by simp [hk]
        have HK5 := Lib.hid hk
        clear hk
        go_quiet (fail)
        go_wp2_with fail
        go_meet
        refine ⟨?_, below_dn HD2.out _⟩
        rw [HgB.out]
        show _ = Value.bool (sameCol s.dat e.dat && decide (s.last.kind ≠ 4) && decide (s.last.ts = e.ts))
        rw [decide_eq_false (fun h => h HK5.out)]
        simp
      · have hkb : (s.last.kind != 4) = true := by simp [hk]
        have hkb2 : (s.last.kind == 4) = false := by simp [hk]
        have HK5 := Lib.hid hk
        clear hk
        go_quiet (fail)
        go_wp2_with fail
        go_meet
        refine ⟨?_, below_dn HD2.out _⟩
        rw [HgB.out]
        show _ = Value.bool (sameCol s.dat e.dat && decide (s.last.kind ≠ 4) && decide (s.last.ts = e.ts))
        rw [← HcB.out, decide_eq_true HK5.out]
        by_cases hts : s.last.ts = e.ts <;> simp [hts]
  case rest =>
  obtain ⟨rfl, HD3⟩ := hcut
  obtain ⟨X3, hX3⟩ : ∃ X3, X3 = wc := ⟨_, rfl⟩
  subst hX3
  clear HD2
  have HK3 := Lib.hid (HU.out _ HD3.out).1
  clear HU HCs HEq1 HEq2
  cases gB with
  | true =>
    go_wp2
    go_ret
    have eR : enterS (mt fs) clock s.dat e.dat = ([], s.dat) := by unfold enterS; rw [if_pos HgB.out.symm]
    rw [eR]
    exact ⟨rfl, O, s, by simpa using HK3.out, rfl, rfl⟩
  | false =>
    have HC := Lib.hid (resolve_any HT.out HK3.out hv HFs.out hr HWb.out 3)
    have eR : enterS (mt fs) clock s.dat e.dat = ((resolveS (mt fs) clock s.dat 3).1, leftS (resolveS (mt fs) clock s.dat 3).2 fB cB) := by
      unfold enterS
      rw [if_neg (by rw [← HgB.out]; simp), ← HfB.out, ← HcB.out]
    have HR := Lib.hid eR
    clear eR
    go_wp2_with fail
    refine Calls.mono HC.out ?_
    rintro z X4 ⟨rfl, O4, s4, K4, d4, l4⟩
    clear HC
    have c11 := K4.box.c11
    have f11 := K4.box.fz 11
    have f12 := K4.box.fz 12
    have f13 := K4.box.fz 13
    have c12 := K4.box.c12
    have c13 := K4.box.c13
    have hvl : (vs ++ (resolveS (mt fs) clock s.dat 3).1).length = (vs ++ (resolveS (mt fs) clock s.dat 3).1).length := rfl
    have H4 := Lib.hid (And.intro K4 (And.intro d4 l4))
    clear K4 d4 l4 hvl
    cases fB with
    | true =>
      cases cB with
      | true =>
        go_wp2
        go_ret
        rw [HR.out]
        exact ⟨rfl, O4, s4, H4.out.1, H4.out.2.1, H4.out.2.2⟩
      | false =>
        have hG : X4.grownBy ((X4.setCell ⟨wb, 12, none⟩ (.int .i64 s4.family)).setCell ⟨wb, 13, none⟩ (.int .i64 0)) (some wb) := grown2 _ _ _ _ _ _
        have K5 := H4.out.1.put HT.out ((H4.out.1.box.setMask s4.family).setRank 0) hG rfl ⟨Int.le_refl 0, by show (0 : Int) ≤ _; omega⟩ ⟨H4.out.1.mask.2, H4.out.1.mask.2⟩ H4.out.1.wait
        have HK5 := Lib.hid K5
        clear K5 hG
        go_wp2
        go_ret
        rw [HR.out]
        refine ⟨rfl, O4, _, HK5.out, ?_, H4.out.2.2⟩
        unfold leftS
        rw [← H4.out.2.1]
        rfl
    | false =>
      cases cB with
      | true =>
        have hG : X4.grownBy (X4.setCell ⟨wb, 11, none⟩ (.int .i64 0)) (some wb) := grown1 _ _ _ _
        have K5 := H4.out.1.put HT.out (H4.out.1.box.setFamily 0) hG rfl H4.out.1.rank ⟨H4.out.1.mask.1, Int.le_refl 0⟩ H4.out.1.wait
        have HK5 := Lib.hid K5
        clear K5 hG
        go_wp2
        go_ret
        rw [HR.out]
        refine ⟨rfl, O4, _, HK5.out, ?_, H4.out.2.2⟩
        unfold leftS
        rw [← H4.out.2.1]
        rfl
      | false =>
        have hG : X4.grownBy (((X4.setCell ⟨wb, 11, none⟩ (.int .i64 0)).setCell ⟨wb, 12, none⟩ (.int .i64 0)).setCell ⟨wb, 13, none⟩ (.int .i64 0)) (some wb) := ⟨rfl, rfl, rfl, by simp, fun k hk hne => ((Below.heap_setCell _ _ _ _ (fun e => hne (by rw [e]))).trans (Below.heap_setCell _ _ _ _ (fun e => hne (by rw [e])))).trans (Below.heap_setCell _ _ _ _ (fun e => hne (by rw [e])))⟩
        have K5 := H4.out.1.put HT.out (((H4.out.1.box.setFamily 0).setMask 0).setRank 0) hG rfl ⟨Int.le_refl 0, by show (0 : Int) ≤ _; omega⟩ ⟨Int.le_refl 0, Int.le_refl 0⟩ H4.out.1.wait
        have HK5 := Lib.hid K5
        clear K5 hG
        go_wp2
        go_ret
        rw [HR.out]
        refine ⟨rfl, O4, _, HK5.out, ?_, H4.out.2.2⟩
        unfold leftS
        rw [← H4.out.2.1]
        rfl
end Go.Proofs.YthhkpkfpifllkaaGreat

namespace Go.Proofs.YthhkpkfpifllkaaGreat
open Go.RowKit
set_option linter.unusedVariables false

theorem app_run {w : World} {B n : Nat} {v src : Value} {xs bs : List Nat} (ty : TypeId) (hown : Own w B v n xs) (hrd : Rd w src bs) (hbytes : n + bs.length ≤ 140737488355328) (hB : B ≤ w.heap.size) :
    ∃ v' w', (Builtin.append_ #[82, 82] ty #[v, src]).run Tryz.prog w = .ok v' w' ∧ Own w' B v' (n + bs.length) (xs ++ bs) ∧ w.grownBy w' v.ownBlock ∧ (∀ k, v'.ownBlock = some k → v.ownBlock = some k ∨ k = w.heap.size) := by
  obtain ⟨i0, hi, hz0, hz1, hz2⟩ := info_parts info_byte
  obtain ⟨hby, a1, c1, rfl, hle, hm, hl48, hnone, hat⟩ := hrd
  cases a1 with
  | none =>
    have hb0 : bs = [] ∧ c1 = 0 := by
      rcases hnone with h | ⟨b, off, h⟩
      · exact ⟨List.eq_nil_of_length_eq_zero (by omega), h⟩
      · cases h
    obtain ⟨rfl, rfl⟩ := hb0
    exact ⟨v, w, run_append_owned_none (P := Tryz.prog) (w := w) B 82 ty 5 i0 1 und_bytes hi v n (bv xs) hown.2, by simpa using hown, World.grownBy.refl _ _, fun k hk => .inl hk⟩
  | some ad =>
    obtain ⟨v', w', hr, h2, h3, h4, h5⟩ := run_append_own_at (P := Tryz.prog) w B 82 ty 5 i0 (.int .u8 0) 1 1 und_bytes hi hz0 hz1 hz2 rfl (by decide) v n (bv xs) hown.2 ad bs.length c1 (bv bs) (by simp [bv]) hat.add (bv_oneCell bs) (by unfold maxLen; omega) (by omega) hB
    refine ⟨v', w', hr, ⟨by rw [hown.1]; simp, by simpa [bv] using h2⟩, h3, fun k hk => ?_⟩
    rcases h5 with h5 | h5
    · rw [h5] at hk; exact .inl hk
    · rw [h5] at hk; cases hk; exact .inr rfl
theorem step_append_rd {w : World} {ops : Array Oper} {o : Oper} {a : Act} {K : Act → World → Prop} {Q : Exit → Act → World → Prop} {E : Prop} (hgd : o.guard = none) (s x : Operand)
    (ho : o.op = .call { callee := .builtin .append, args := #[s, x], argTypes := #[82, 82] })
    {B n : Nat} {v src : Value} {xs bs : List Nat} (hs : a.eval s = v) (hown : Own w B v n xs) (hx : a.eval x = src) (hrd : Rd w src bs) (hbytes : n + bs.length ≤ 140737488355328) (hB : B ≤ w.heap.size)
    (h : ∀ a' c' w', Own w' B (.slice a' (n + bs.length) c') (n + bs.length) (xs ++ bs) → w.grownBy w' v.ownBlock → (∀ k, (Value.slice a' (n + bs.length) c').ownBlock = some k → v.ownBlock = some k ∨ k = w.heap.size) → K (a.put o.dst (.slice a' (n + bs.length) c')) w') :
    if Region.wanted o (yielded ops a.tmps) = true then Oper.wp Tryz.prog o a w K Q else E := by
  have hw : Region.wanted o (yielded ops a.tmps) = true := by simp [Region.wanted, hgd]
  rw [if_pos hw]
  obtain ⟨v', w', hrn, h1, h2, h3⟩ := app_run o.type hown hrd hbytes hB
  obtain ⟨a', c', rfl⟩ := own_form' h1
  unfold Oper.wp execOp
  rw [ho]
  simp only [resolve, invoke, builtin, Sem.run_bind, Sem.run_pure, Result.andThen_ok, List.map_toArray, List.map_cons, List.map_nil, hs, hx, hrn]
  exact h a' c' w' h1 h2 h3
theorem Own.cut0 {w : World} {B n c : Nat} {a : Option Addr} {xs : List Nat} (h : Own w B (.slice a n c) n xs) : Own w B (.slice a 0 c) 0 [] := by
  refine ⟨rfl, by simp [bv], ?_⟩
  rcases h.2.2 with ⟨h1, h2⟩ | ⟨g, cap, cur, h1, h2, h3, h4, h5, h6, h7⟩
  · simp only [Value.slice.injEq] at h1
    exact .inl ⟨by rw [h1.1, h1.2.2], rfl⟩
  · simp only [Value.slice.injEq] at h1
    exact .inr ⟨g, cap, cur, by rw [h1.1, h1.2.2], h2, h3, Nat.zero_le _, h5, h6, by simp [bv]⟩
structure Bf (W0 : Base) (wb rb : Nat) (T : World → (Nat → Prop) → List Vd → Prop) (q : Nat) (Z : World) (O : Nat → Prop) (vs : List Vd) (u1 u2 u3 : Value) (l1 l2 l3 : List Nat) : Prop where
  tell : T Z O vs
  o1 : Own Z W0.lo u1 l1.length l1
  o2 : Own Z W0.lo u2 l2.length l2
  o3 : Own Z W0.lo u3 l3.length l3
  lL : ∀ k, u1.ownBlock = some k ∨ u2.ownBlock = some k ∨ u3.ownBlock = some k → W0.L k ∨ W0.heap.size ≤ k
  a12 : ∀ k, u1.ownBlock = some k → u2.ownBlock ≠ some k
  a13 : ∀ k, u1.ownBlock = some k → u3.ownBlock ≠ some k
  a23 : ∀ k, u2.ownBlock = some k → u3.ownBlock ≠ some k
  apO : ∀ k, u1.ownBlock = some k ∨ u2.ownBlock = some k ∨ u3.ownBlock = some k → ¬ O k ∧ k ≠ q
  ql : q < Z.heap.size
  os : Z.os = W0.os
  tape : Z.tape = W0.tape
  output : Z.output = W0.output
  fr : Fr0 W0 wb rb Z
section
variable {W0 : Base} {W Z Z' : World} {wb g rb q : Nat} {fv : Value} {fs : List FamD} {clock : Int} {T : World → (Nat → Prop) → List Vd → Prop} {O : Nat → Prop} {s : SpD} {vs : List Vd} {u1 u2 u3 v : Value} {l1 l2 l3 l : List Nat}
theorem Bf.app1 (ht : Teller g rb T) (h : Bf W0 wb rb T q Z O vs u1 u2 u3 l1 l2 l3) (ho : Own Z' W0.lo v l.length l) (hg : Z.grownBy Z' u1.ownBlock) (hl : ∀ k, v.ownBlock = some k → u1.ownBlock = some k ∨ k = Z.heap.size) : Bf W0 wb rb T q Z' O vs v u2 u3 l l2 l3 := by
  have n2 := fun k hk => (h.o2.2.lt k hk).2
  have n3 := fun k hk => (h.o3.2.lt k hk).2
  have lo := fun k hk => h.lL k (.inl hk)
  refine ⟨ht.keep h.tell (fun i hi => hg.block i (ht.lt h.tell hi) (fun e => (h.apO i (.inl e.symm)).1 hi)) hg.size, ho, own_same h.o2 (fun k hk => hg.block k (n2 k hk) (fun e => h.a12 k e.symm hk)), own_same h.o3 (fun k hk => hg.block k (n3 k hk) (fun e => h.a13 k e.symm hk)), fun k hk => ?_, fun k hk e => ?_, fun k hk e => ?_, h.a23, fun k hk => ?_, Nat.lt_of_lt_of_le h.ql hg.size, hg.os.trans h.os, hg.tape.trans h.tape, hg.output.trans h.output, Nat.le_trans h.fr.1 hg.size, fun i hi k1 k2 k3 => ?_⟩
  · rcases hk with hk | hk
    · rcases hl k hk with h1 | h1
      · exact lo k h1
      · exact .inr (by have := h.fr.1; omega)
    · exact h.lL k (.inr hk)
  · rcases hl k hk with h1 | h1
    · exact h.a12 k h1 e
    · have := n2 k e; omega
  · rcases hl k hk with h1 | h1
    · exact h.a13 k h1 e
    · have := n3 k e; omega
  · rcases hk with hk | hk
    · rcases hl k hk with h1 | h1
      · exact h.apO k (.inl h1)
      · exact ⟨fun o => by have := ht.lt h.tell o; omega, by have := h.ql; omega⟩
    · exact h.apO k (.inr hk)
  · rw [hg.block i (Nat.lt_of_lt_of_le hi h.fr.1) (fun e => by rcases lo i e.symm with z | z; exact k3 z; omega)]
    exact h.fr.2 i hi k1 k2 k3
theorem Bf.turn (h : Bf W0 wb rb T q Z O vs u1 u2 u3 l1 l2 l3) : Bf W0 wb rb T q Z O vs u2 u3 u1 l2 l3 l1 :=
  ⟨h.tell, h.o2, h.o3, h.o1, fun k hk => h.lL k (by rcases hk with hk | hk | hk; exact .inr (.inl hk); exact .inr (.inr hk); exact .inl hk), h.a23, fun k hk e => h.a12 k e hk, fun k hk e => h.a13 k e hk, fun k hk => h.apO k (by rcases hk with hk | hk | hk; exact .inr (.inl hk); exact .inr (.inr hk); exact .inl hk), h.ql, h.os, h.tape, h.output, h.fr⟩
theorem Bf.put (ht : Teller g rb T) (h : Bf W0 wb rb T q Z O vs u1 u2 u3 l1 l2 l3) (hg : Z.grownBy Z' (some wb)) (hw : wb < W0.heap.size ∧ ¬ W0.L wb) (hO : ¬ O wb) : Bf W0 wb rb T q Z' O vs u1 u2 u3 l1 l2 l3 := by
  have nb : ∀ {u : Value} {m : Nat} {xs : List Nat}, Own Z W0.lo u m xs → (∀ k, u.ownBlock = some k → W0.L k ∨ W0.heap.size ≤ k) → Own Z' W0.lo u m xs := fun o ol => own_same o (fun k hk => hg.block k (o.2.lt k hk).2 (fun e => by cases e; rcases ol _ hk with z | z; exact hw.2 z; omega))
  refine ⟨ht.keep h.tell (fun i hi => hg.block i (ht.lt h.tell hi) (fun e => by cases e; exact hO hi)) hg.size, nb h.o1 (fun k hk => h.lL k (.inl hk)), nb h.o2 (fun k hk => h.lL k (.inr (.inl hk))), nb h.o3 (fun k hk => h.lL k (.inr (.inr hk))), h.lL, h.a12, h.a13, h.a23, h.apO, Nat.lt_of_lt_of_le h.ql hg.size, hg.os.trans h.os, hg.tape.trans h.tape, hg.output.trans h.output, Nat.le_trans h.fr.1 hg.size, fun i hi k1 k2 k3 => ?_⟩
  rw [hg.block i (Nat.lt_of_lt_of_le hi h.fr.1) (fun e => by cases e; exact k1 rfl)]
  exact h.fr.2 i hi k1 k2 k3
theorem Bf.later (ht : Teller g rb T) (h : Bf W0 wb rb T q Z O vs u1 u2 u3 l1 l2 l3) (k : Below Z.heap.size Z Z') (hw : wb < W0.heap.size ∧ ¬ W0.L wb) (hO : ¬ O wb) : Bf W0 wb rb T q Z' O vs u1 u2 u3 l1 l2 l3 :=
  h.put ht ⟨k.os, k.tape, k.output, k.size, fun i hi _ => k.block i hi⟩ hw hO
end
end Go.Proofs.YthhkpkfpifllkaaGreat
