import Derived.Test.YthpdlclgiggekaaCell68
import Derived.Deep.RegionHeld3
import Derived.Test.YthpdlclgiggekaaRows
import Derived.Test.YthpdlclgiggekaaJ00
import Derived.ProofKit
import Derived.OpenShut
import Derived.Deep.DeepHandedRow
import Derived.Lib.LaidTab
import Derived.Deep.Slices
import Derived.Test.YthpdlclgiggekaaJ03
namespace Go.Proofs.Ythpdlclgiggekaa
open Go.RowKit
set_option linter.unusedVariables false

set_option maxRecDepth 100000 in
set_option maxHeartbeats 32000000 in
theorem cellAgain_walk {v0 vt : Value} {r0 : List Nat} {tl : List TurnD} {e o : EntD} {w : World} {at_ : Int} (hr0 : Rd w v0 r0) (h47 : r0.length ≤ 140737488355328) (he : EntD.Ok w e) (ho : EntD.Ok w o) (ht : RdT w vt tl) :
    Calls Try.prog 11 #[v0, .agg e.cells, .agg o.cells, .int .i64 at_, vt] w fun r w' => r = .returned (.bool true) ∧ Below w.heap.size w w' := by
  obtain ⟨x0, y0, z0, rfl⟩ := rd_slice hr0
  have HT := Lib.hid ht
  obtain ⟨at0, nt, ct, rfl, hnt⟩ : ∃ a n c, vt = .slice a n c ∧ n = tl.length ∧ n ≤ 281474976710656 := by
    obtain ⟨a, cap, h1, _, _, h4, _⟩ := ht
    exact ⟨a, _, cap, h1, rfl, h4⟩
  have HNT := Lib.hid hnt.1
  have hnt48 : (nt : Int) ≤ 281474976710656 := by have := hnt.2; omega
  have HI := Lib.hid (two_in w e o)
  have HK : Hid (Rd w (.slice x0 y0 z0) r0 ∧ r0.length ≤ 140737488355328 ∧ EntD.Ok w e ∧ EntD.Ok w o ∧ EntD.Fine e.cut ∧ EntD.Fine o.cut) := ⟨hr0, h47, he, ho, EntD.cut_fine he, EntD.cut_fine ho⟩
  clear hr0 h47 he ho ht hnt
  simp only [EntD.cells] at HI ⊢
  go_enter Try.func11, Try.ntmps11
  go_wp2_with fail
  refine again1_region (e0 := e) (e1 := o) (HK.out.1.later HI.out.2.2) HK.out.2.1 HI.out.1 (HK.out.2.2.1.later HI.out.2.2) HI.out.2.1 (HK.out.2.2.2.1.later HI.out.2.2) _ (fun qi qf u0 t0 D1 t1 D2 t2 w1 xi xf hne ri rf l0 p0 m0 l1 p1 s1 a1 m1 l2 p2 s2 a2 m2 hb => ?_)
  obtain ⟨gb, nb, cb, rfl⟩ := l0.form2
  obtain ⟨gr, nr, cr, eR⟩ := l1.1.form2
  obtain ⟨gq, nq, cq, eQ⟩ := l1.2.1.form2
  obtain ⟨gv, nv, cv, eV⟩ := l1.2.2.form2
  obtain ⟨vr, fam, vq, ts, sq, kd, vv, row, qual, val⟩ := D1
  simp only at eR eQ eV
  subst eR eQ eV
  have f1 := HK.out.2.2.2.2.1.same s1
  have f2 := HK.out.2.2.2.2.2.same s2
  have hB0 := HI.out.2.2
  have AG0 : Hid (Ag w w1 o qi qf (.slice (some ⟨gb, 0, none⟩) nb cb) ⟨.slice (some ⟨gr, 0, none⟩) nr cr, fam, .slice (some ⟨gq, 0, none⟩) nq cq, ts, sq, kd, .slice (some ⟨gv, 0, none⟩) nv cv, row, qual, val⟩ D2 (r0.take 5000)) := ⟨xi, xf, HI.out.2.1.later hb, l1.mono hB0.size, l2.mono hB0.size, l0.mono hB0.size, f1, ⟨fun x hx => HK.out.1.1 x (List.mem_of_mem_take hx), by simp; omega⟩, hB0.trans (hb.mono hB0.size)⟩
  have NE : Hid (((gr ≠ gq ∧ gr ≠ gv ∧ gq ≠ gv) ∧ (gb ≠ gr ∧ gb ≠ gq ∧ gb ≠ gv)) ∧ (∀ g, g = gb ∨ g = gr ∨ g = gq ∨ g = gv → w.heap.size ≤ g ∧ g ≠ w.heap.size + 1 ∧ (D2.vr.ownBlock ≠ some g ∧ D2.vq.ownBlock ≠ some g ∧ D2.vv.ownBlock ≠ some g))) := by
    have b0 := p0 gb rfl
    have br := p1 gr (.inl rfl)
    have bq := p1 gq (.inr (.inl rfl))
    have bv := p1 gv (.inr (.inr rfl))
    have hsz : w.heap.size + 1 + 1 = (((w.alloc (.cells e.cells 35)).alloc (.cells o.cells 35)).heap.size) := by simp
    simp only [EntD.cells] at hsz
    refine ⟨⟨⟨fun h => a1.1 gr rfl (by rw [h]; rfl), fun h => a1.2.1 gr rfl (by rw [h]; rfl), fun h => a1.2.2 gq rfl (by rw [h]; rfl)⟩, ⟨by omega, by omega, by omega⟩⟩, fun g hg => ?_⟩
    have hg2 : w.heap.size + 1 + 1 ≤ g ∧ g < t1 := by rcases hg with rfl | rfl | rfl | rfl <;> omega
    refine ⟨by omega, by omega, ?_, ?_, ?_⟩
    · intro h; have := p2 g (.inl h); omega
    · intro h; have := p2 g (.inr (.inl h)); omega
    · intro h; have := p2 g (.inr (.inr h)); omega
  have SF := Lib.hid s2
  have FF := Lib.hid f2
  have HNQ : Hid (qi ≠ qf) := hne
  have HQI : Hid (w.heap.size + 1 + 1 ≤ qi) := by unfold Hid; simpa using ri
  clear xi xf hne ri rf l0 p0 m0 l1 p1 s1 a1 m1 l2 p2 s2 a2 m2 hb f1 f2 hB0 HI
  unfold again1Act
  simp only [EntD.cells]
  go_wp2
  go_loopw [14, 15, 16, 17, 18, 19, 20, 21, 22, 23, 24, 25, 26] (fun i s1 s2 s3 s4 s5 s6 s7 s8 s9 s10 s11 s12 wr => ∃ t : Nat, t ≤ 31 ∧ t ≤ nt + 1 ∧ i = .int .i64 (t : Int) ∧ ∃ fam ts sq kd row qual val bs, Hid (Ag w wr o qi qf (.slice (some ⟨gb, 0, none⟩) nb cb) ⟨.slice (some ⟨gr, 0, none⟩) nr cr, fam, .slice (some ⟨gq, 0, none⟩) nq cq, ts, sq, kd, .slice (some ⟨gv, 0, none⟩) nv cv, row, qual, val⟩ D2 bs)) (fun i _ _ _ _ _ _ _ _ _ _ _ _ _ => 31 - (intOf i).toNat)
  case atStart => exact ⟨0, by omega, by omega, rfl, fam, ts, sq, kd, row, qual, val, _, AG0⟩
  case round =>
    clear AG0
    obtain ⟨t, ht31, htn, rfl, fam, ts, sq, kd, row, qual, val, bs, AG⟩ := hrel
    by_cases hin : t ≤ nt ∧ t ≤ 30
    · have h1 : (t : Int) ≤ (nt : Int) := by omega
      have h2 : (t : Int) ≤ 30 := by omega
      go_wp2_with fail
      have hb47 : bs.length ≤ 140737488355328 := by have := AG.out.hb.2; omega
      have RB := AG.out.lb.rd AG.out.hb.1 hb47
      refine again2_region (e0 := ⟨.slice (some ⟨gr, 0, none⟩) nr cr, fam, .slice (some ⟨gq, 0, none⟩) nq cq, ts, sq, kd, .slice (some ⟨gv, 0, none⟩) nv cv, row, qual, val⟩) RB hb47 AG.out.ei (AG.out.li.ok AG.out.fi) _ (fun qn va vm vc tx0 Nw tx1 w2 xn rn ow pw mw ln pn sn an mn hb2 => ?_)
      have AG2 := Lib.hid (AG.out.later hb2)
      have NW : Hid (EBox w2 qn Nw ∧ LaidE w2 wr.heap.size Nw ∧ EntD.Same Nw ⟨.slice (some ⟨gr, 0, none⟩) nr cr, fam, .slice (some ⟨gq, 0, none⟩) nq cq, ts, sq, kd, .slice (some ⟨gv, 0, none⟩) nv cv, row, qual, val⟩ ∧ Own w2 wr.heap.size (.slice va vm vc) vm bs ∧ EntD.Fine Nw) := by
        have h := cut_same AG.out.fi
        have sn2 : EntD.Same Nw ⟨.slice (some ⟨gr, 0, none⟩) nr cr, fam, .slice (some ⟨gq, 0, none⟩) nq cq, ts, sq, kd, .slice (some ⟨gv, 0, none⟩) nv cv, row, qual, val⟩ := ⟨sn.1.trans h.1, sn.2.1.trans h.2.1, sn.2.2.1.trans h.2.2.1, sn.2.2.2.1.trans h.2.2.2.1, sn.2.2.2.2.1.trans h.2.2.2.2.1, sn.2.2.2.2.2.1.trans h.2.2.2.2.2.1, sn.2.2.2.2.2.2.trans h.2.2.2.2.2.2⟩
        exact ⟨xn, ln, sn2, ow, AG.out.fi.same sn2⟩
      clear hb2 xn rn ow pw mw ln pn sn an mn RB AG
      obtain ⟨K, VV, E1, P2, E2, U1, U2⟩ := unpacks_two bs at_ hb47
      have CU1 := Lib.hid U1
      have CU2 := Lib.hid U2
      have H47 := Lib.hid hb47
      clear U1 U2 hb47
      unfold again2Act
      simp only [EntD.cells]
      go_wp2_with fail
      refine (parse_own (AG2.out.lb.rd AG2.out.hb.1 H47.out) H47.out).mono ?_
      rintro q w3 ⟨X, EX, rfl, dx, ox, hb3⟩
      obtain ⟨ar1, cr1, er⟩ := own_form ox.row.2
      obtain ⟨aq1, cq1, eq⟩ := own_form ox.qual.2
      have ev := ox.vv.1
      obtain ⟨vr, fam1, vq, ts1, sq1, kd1, vv, row1, qual1, val1⟩ := X
      simp only at er eq ev
      subst er eq ev
      have A3 := (Below.refl w3.heap.size w3).alloc (Nat.le_refl _) (.cells (EntD.cells ⟨.slice ar1 row1.length cr1, fam1, .slice aq1 qual1.length cq1, ts1, sq1, kd1, .slice none 0 0, row1, qual1, val1⟩) 35)
      have hb3' := hb3.trans (A3.mono hb3.size)
      have AG3 := Lib.hid (AG2.out.later hb3')
      have NW3 := Lib.hid (And.intro (NW.out.1.later hb3') (And.intro (NW.out.2.1.later hb3') (And.intro NW.out.2.2.1 (And.intro (NW.out.2.2.2.1.later hb3') NW.out.2.2.2.2))))
      have BX3 := Lib.hid (And.intro (EBox.new w3 ⟨.slice ar1 row1.length cr1, fam1, .slice aq1 qual1.length cq1, ts1, sq1, kd1, .slice none 0 0, row1, qual1, val1⟩) (ox.later A3).ok)
      have HDX := Lib.hid dx
      clear dx ox hb3 hb3' A3 AG2 NW
      simp only [EntD.cells] at AG3 NW3 BX3 ⊢
      go_wp2_with fail
      refine (refParse_own (NW3.out.2.2.2.1.rd AG3.out.hb.1 (by rw [NW3.out.2.2.2.1.1]; have := AG3.out.hb.2; omega)) H47.out).mono ?_
      rintro q w4 ⟨Y, EY, rfl, dy, oy, hb4⟩
      obtain ⟨rfl, sxy⟩ := HDX.out.same dy
      obtain ⟨ar2, cr2, er⟩ := own_form oy.row.2
      obtain ⟨aq2, cq2, eq⟩ := own_form oy.qual.2
      have ev := oy.vv.1
      obtain ⟨vr, fam2, vq, ts2, sq2, kd2, vv, row2, qual2, val2⟩ := Y
      simp only at er eq ev
      subst er eq ev
      have A4 := (Below.refl w4.heap.size w4).alloc (Nat.le_refl _) (.cells (EntD.cells ⟨.slice ar2 row2.length cr2, fam2, .slice aq2 qual2.length cq2, ts2, sq2, kd2, .slice none 0 0, row2, qual2, val2⟩) 35)
      have hb4' := hb4.trans (A4.mono hb4.size)
      have AG4 := Lib.hid (AG3.out.later hb4')
      have NW4 := Lib.hid (And.intro (NW3.out.1.later hb4') (And.intro (NW3.out.2.1.later hb4') (And.intro NW3.out.2.2.1 (And.intro (NW3.out.2.2.2.1.later hb4') NW3.out.2.2.2.2))))
      have BX4 := Lib.hid (And.intro (BX3.out.1.later hb4') (BX3.out.2.later hb4'))
      have BY4 := Lib.hid (And.intro (EBox.new w4 ⟨.slice ar2 row2.length cr2, fam2, .slice aq2 qual2.length cq2, ts2, sq2, kd2, .slice none 0 0, row2, qual2, val2⟩) (oy.later A4).ok)
      have HXY := Lib.hid sxy
      clear dy oy hb4 hb4' A4 AG3 NW3 BX3 sxy HDX
      simp only [EntD.cells] at AG4 NW4 BX4 BY4 ⊢
      go_wp2_with fail
      refine (CU1.out _ _ _ _ (AG4.out.lb.rd AG4.out.hb.1 H47.out)).mono ?_
      rintro q w5 ⟨U, PU, EU, rfl, du, ou, hb5⟩
      obtain ⟨ar3, cr3, er⟩ := own_form ou.row.2
      obtain ⟨aq3, cq3, eq⟩ := own_form ou.qual.2
      obtain ⟨av3, cv3, ev⟩ := own_form ou.val.2
      obtain ⟨vr, fam3, vq, ts3, sq3, kd3, vv, row3, qual3, val3⟩ := U
      simp only at er eq ev
      subst er eq ev
      have A5 := (Below.refl w5.heap.size w5).alloc (Nat.le_refl _) (.cells (EntD.cells ⟨.slice ar3 row3.length cr3, fam3, .slice aq3 qual3.length cq3, ts3, sq3, kd3, .slice av3 val3.length cv3, row3, qual3, val3⟩) 35)
      have hb5' := hb5.trans (A5.mono hb5.size)
      have AG5 := Lib.hid (AG4.out.later hb5')
      have NW5 := Lib.hid (And.intro (NW4.out.1.later hb5') (And.intro (NW4.out.2.1.later hb5') (And.intro NW4.out.2.2.1 (And.intro (NW4.out.2.2.2.1.later hb5') NW4.out.2.2.2.2))))
      have BX5 := Lib.hid (And.intro (BX4.out.1.later hb5') (BX4.out.2.later hb5'))
      have BY5 := Lib.hid (And.intro (BY4.out.1.later hb5') (BY4.out.2.later hb5'))
      have BU5 := Lib.hid (And.intro (EBox.new w5 ⟨.slice ar3 row3.length cr3, fam3, .slice aq3 qual3.length cq3, ts3, sq3, kd3, .slice av3 val3.length cv3, row3, qual3, val3⟩) (ou.later A5).ok)
      have HDU := Lib.hid du
      clear du ou hb5 hb5' A5 AG4 NW4 BX4 BY4
      simp only [EntD.cells] at AG5 NW5 BX5 BY5 BU5 ⊢
      go_wp2_with fail
      refine (CU2.out _ _ _ _ (NW5.out.2.2.2.1.rd AG5.out.hb.1 (by rw [NW5.out.2.2.2.1.1]; have := AG5.out.hb.2; omega))).mono ?_
      rintro q w6 ⟨Z, PZ, EZ, rfl, dz, oz, hb6⟩
      obtain ⟨rfl, rfl, suz⟩ := HDU.out.same dz
      obtain ⟨ar4, cr4, er⟩ := own_form oz.row.2
      obtain ⟨aq4, cq4, eq⟩ := own_form oz.qual.2
      obtain ⟨av4, cv4, ev⟩ := own_form oz.val.2
      obtain ⟨vr, fam4, vq, ts4, sq4, kd4, vv, row4, qual4, val4⟩ := Z
      simp only at er eq ev
      subst er eq ev
      have A6 := (Below.refl w6.heap.size w6).alloc (Nat.le_refl _) (.cells (EntD.cells ⟨.slice ar4 row4.length cr4, fam4, .slice aq4 qual4.length cq4, ts4, sq4, kd4, .slice av4 val4.length cv4, row4, qual4, val4⟩) 35)
      have hb6' := hb6.trans (A6.mono hb6.size)
      have AG6 := Lib.hid (AG5.out.later hb6')
      have NW6 := Lib.hid (And.intro (NW5.out.1.later hb6') (And.intro (NW5.out.2.1.later hb6') (And.intro NW5.out.2.2.1 (And.intro (NW5.out.2.2.2.1.later hb6') NW5.out.2.2.2.2))))
      have BX6 := Lib.hid (And.intro (BX5.out.1.later hb6') (BX5.out.2.later hb6'))
      have BY6 := Lib.hid (And.intro (BY5.out.1.later hb6') (BY5.out.2.later hb6'))
      have BU6 := Lib.hid (And.intro (BU5.out.1.later hb6') (BU5.out.2.later hb6'))
      have BZ6 := Lib.hid (And.intro (EBox.new w6 ⟨.slice ar4 row4.length cr4, fam4, .slice aq4 qual4.length cq4, ts4, sq4, kd4, .slice av4 val4.length cv4, row4, qual4, val4⟩) (oz.later A6).ok)
      have HUZ := Lib.hid suz
      clear dz oz hb6 hb6' A6 AG5 NW5 BX5 BY5 BU5 suz HDU
      simp only [EntD.cells] at AG6 NW6 BX6 BY6 BU6 BZ6 ⊢
      obtain ⟨ci0, ci1, ci2, ci3, ci4, ci5, ci6⟩ := AG6.out.ei.cells7
      obtain ⟨cn0, cn1, cn2, cn3, cn4, cn5, cn6⟩ := NW6.out.1.cells7
      obtain ⟨cf0, cf1, cf2, cf3, cf4, cf5, cf6⟩ := AG6.out.ef.cells7
      simp only at ci0 ci1 ci2 ci3 ci4 ci5 ci6
      have CW : Hid (Calls _ _ _ _ _) := writtenE_any (AG6.out.li.ok AG6.out.fi) (NW6.out.2.1.ok NW6.out.2.2.2.2) (AG6.out.lf.ok FF.out) NW6.out.2.2.1.symm AG6.out.fi
      simp only [EntD.cells] at CW
      go_wp2_with fail
      refine CW.out.mono ?_
      rintro q w7 ⟨rfl, hb7⟩
      have AG7 := Lib.hid (AG6.out.later hb7)
      have NW7 := Lib.hid (And.intro (NW6.out.1.later hb7) (And.intro (NW6.out.2.1.later hb7) (And.intro NW6.out.2.2.1 (And.intro (NW6.out.2.2.2.1.later hb7) NW6.out.2.2.2.2))))
      have BX7 := Lib.hid (And.intro (BX6.out.1.later hb7) (BX6.out.2.later hb7))
      have BY7 := Lib.hid (And.intro (BY6.out.1.later hb7) (BY6.out.2.later hb7))
      have BU7 := Lib.hid (And.intro (BU6.out.1.later hb7) (BU6.out.2.later hb7))
      have BZ7 := Lib.hid (And.intro (BZ6.out.1.later hb7) (BZ6.out.2.later hb7))
      clear hb7 CW AG6 NW6 BX6 BY6 BU6 BZ6 ci0 ci1 ci2 ci3 ci4 ci5 ci6 cn0 cn1 cn2 cn3 cn4 cn5 cn6 cf0 cf1 cf2 cf3 cf4 cf5 cf6
      obtain ⟨cx0, cx1, cx2, cx3, cx4, cx5, cx6⟩ := BX7.out.1.cells7
      obtain ⟨cy0, cy1, cy2, cy3, cy4, cy5, cy6⟩ := BY7.out.1.cells7
      simp only at cx0 cx1 cx2 cx3 cx4 cx5 cx6 cy0 cy1 cy2 cy3 cy4 cy5 cy6
      have CX : Hid (Calls _ _ _ _ _) := sameEntry_eq BX7.out.2 BY7.out.2 HXY.out
      simp only [EntD.cells] at CX
      go_wp2_with fail
      refine CX.out.mono ?_
      rintro q w8 ⟨rfl, hb8⟩
      have AG8 := Lib.hid (AG7.out.later hb8)
      have NW8 := Lib.hid (And.intro (NW7.out.1.later hb8) (And.intro (NW7.out.2.1.later hb8) (And.intro NW7.out.2.2.1 (And.intro (NW7.out.2.2.2.1.later hb8) NW7.out.2.2.2.2))))
      have BU8 := Lib.hid (And.intro (BU7.out.1.later hb8) (BU7.out.2.later hb8))
      have BZ8 := Lib.hid (And.intro (BZ7.out.1.later hb8) (BZ7.out.2.later hb8))
      clear hb8 CX AG7 NW7 BX7 BY7 BU7 BZ7 cx0 cx1 cx2 cx3 cx4 cx5 cx6 cy0 cy1 cy2 cy3 cy4 cy5 cy6
      obtain ⟨cu0, cu1, cu2, cu3, cu4, cu5, cu6⟩ := BU8.out.1.cells7
      obtain ⟨cz0, cz1, cz2, cz3, cz4, cz5, cz6⟩ := BZ8.out.1.cells7
      simp only at cu0 cu1 cu2 cu3 cu4 cu5 cu6 cz0 cz1 cz2 cz3 cz4 cz5 cz6
      have CZ : Hid (Calls _ _ _ _ _) := sameEntry_eq BU8.out.2 BZ8.out.2 HUZ.out
      simp only [EntD.cells] at CZ
      go_wp2_with fail
      refine CZ.out.mono ?_
      rintro q w9 ⟨rfl, hb9⟩
      have AG9 := Lib.hid (AG8.out.later hb9)
      have NW9 := Lib.hid (And.intro (NW8.out.1.later hb9) (And.intro (NW8.out.2.1.later hb9) (And.intro NW8.out.2.2.1 (And.intro (NW8.out.2.2.2.1.later hb9) NW8.out.2.2.2.2))))
      clear hb9 CZ AG8 NW8 BU8 BZ8 cu0 cu1 cu2 cu3 cu4 cu5 cu6 cz0 cz1 cz2 cz3 cz4 cz5 cz6 HXY HUZ CU1 CU2
      have KS : Hid (∀ wx, Below w9.heap.size w9 wx → (wx.cell? ⟨qi, 0, none⟩ = some (.slice (some ⟨gr, 0, none⟩) nr cr) ∧ wx.cell? ⟨qi, 1, none⟩ = some (.int .i64 fam) ∧ wx.cell? ⟨qi, 2, none⟩ = some (.slice (some ⟨gq, 0, none⟩) nq cq) ∧ wx.cell? ⟨qi, 3, none⟩ = some (.int .i64 ts) ∧ wx.cell? ⟨qi, 4, none⟩ = some (.int .i64 sq) ∧ wx.cell? ⟨qi, 5, none⟩ = some (.int .i64 kd) ∧ wx.cell? ⟨qi, 6, none⟩ = some (.slice (some ⟨gv, 0, none⟩) nv cv)) ∧ (wx.cell? ⟨qn, 0, none⟩ = some Nw.vr ∧ wx.cell? ⟨qn, 1, none⟩ = some (.int .i64 Nw.fam) ∧ wx.cell? ⟨qn, 2, none⟩ = some Nw.vq ∧ wx.cell? ⟨qn, 3, none⟩ = some (.int .i64 Nw.ts) ∧ wx.cell? ⟨qn, 4, none⟩ = some (.int .i64 Nw.seq) ∧ wx.cell? ⟨qn, 5, none⟩ = some (.int .i64 Nw.kind) ∧ wx.cell? ⟨qn, 6, none⟩ = some Nw.vv) ∧ (wx.cell? ⟨qf, 0, none⟩ = some D2.vr ∧ wx.cell? ⟨qf, 1, none⟩ = some (.int .i64 D2.fam) ∧ wx.cell? ⟨qf, 2, none⟩ = some D2.vq ∧ wx.cell? ⟨qf, 3, none⟩ = some (.int .i64 D2.ts) ∧ wx.cell? ⟨qf, 4, none⟩ = some (.int .i64 D2.seq) ∧ wx.cell? ⟨qf, 5, none⟩ = some (.int .i64 D2.kind) ∧ wx.cell? ⟨qf, 6, none⟩ = some D2.vv) ∧ (wx.cell? ⟨(w.heap.size + 1), 0, none⟩ = some o.vr ∧ wx.cell? ⟨(w.heap.size + 1), 1, none⟩ = some (.int .i64 o.fam) ∧ wx.cell? ⟨(w.heap.size + 1), 2, none⟩ = some o.vq ∧ wx.cell? ⟨(w.heap.size + 1), 3, none⟩ = some (.int .i64 o.ts) ∧ wx.cell? ⟨(w.heap.size + 1), 4, none⟩ = some (.int .i64 o.seq) ∧ wx.cell? ⟨(w.heap.size + 1), 5, none⟩ = some (.int .i64 o.kind) ∧ wx.cell? ⟨(w.heap.size + 1), 6, none⟩ = some o.vv)) := fun wx h => ⟨(AG9.out.ei.later h).cells7, (NW9.out.1.later h).cells7, (AG9.out.ef.later h).cells7, (AG9.out.eo.later h).cells7⟩
      have D0 : Below w9.heap.size w9 w9.drew := (Below.refl _ _).drew
      have C1 : Hid (∀ wx, Below w9.heap.size w9 wx → Calls Try.prog 36 #[.slice (some ⟨gb, 0, none⟩) nb cb, .slice va vm vc] wx fun r w' => r = .returned (.bool true) ∧ Below wx.heap.size wx w') := fun wx h => intact_any (AG9.out.lb.later h) ((NW9.out.2.2.2.1.rd AG9.out.hb.1 (by rw [NW9.out.2.2.2.1.1]; have := AG9.out.hb.2; omega)).later h) (by have := AG9.out.hb.2; omega)
      have C2 : Hid (∀ wx, Below w9.heap.size w9 wx → Calls Try.prog 22 #[.agg (EntD.cells ⟨.slice (some ⟨gr, 0, none⟩) nr cr, fam, .slice (some ⟨gq, 0, none⟩) nq cq, ts, sq, kd, .slice (some ⟨gv, 0, none⟩) nv cv, row, qual, val⟩), .agg Nw.cells] wx fun r w' => r = .returned (.bool true) ∧ Below wx.heap.size wx w') := fun wx h => stands_any (AG9.out.li.later h) ((NW9.out.2.1.later h).ok NW9.out.2.2.2.2) NW9.out.2.2.1.symm AG9.out.fi
      have C3 : Hid (∀ wx, Below w9.heap.size w9 wx → EntD.Ok wx o) := fun wx h => (HK.out.2.2.2.1.later AG9.out.bel).later h
      have C4 : Hid (∀ wx P, Below w9.heap.size w9 wx → EntD.Ok wx P → EntD.Same P o.cut → Calls Try.prog 22 #[.agg D2.cells, .agg P.cells] wx fun r w' => r = .returned (.bool true) ∧ Below wx.heap.size wx w') := fun wx P h1 h2 h3 => stands_any (AG9.out.lf.later h1) h2 (SF.out.trans' h3) FF.out
      simp only [EntD.cells] at C2
      go_wp2_with fail
      go_region_held3 (fun wx => (wx.cell? ⟨qi, 0, none⟩ = some (.slice (some ⟨gr, 0, none⟩) nr cr) ∧ wx.cell? ⟨qi, 1, none⟩ = some (.int .i64 fam) ∧ wx.cell? ⟨qi, 2, none⟩ = some (.slice (some ⟨gq, 0, none⟩) nq cq) ∧ wx.cell? ⟨qi, 3, none⟩ = some (.int .i64 ts) ∧ wx.cell? ⟨qi, 4, none⟩ = some (.int .i64 sq) ∧ wx.cell? ⟨qi, 5, none⟩ = some (.int .i64 kd) ∧ wx.cell? ⟨qi, 6, none⟩ = some (.slice (some ⟨gv, 0, none⟩) nv cv)) ∧ (wx.cell? ⟨qn, 0, none⟩ = some Nw.vr ∧ wx.cell? ⟨qn, 1, none⟩ = some (.int .i64 Nw.fam) ∧ wx.cell? ⟨qn, 2, none⟩ = some Nw.vq ∧ wx.cell? ⟨qn, 3, none⟩ = some (.int .i64 Nw.ts) ∧ wx.cell? ⟨qn, 4, none⟩ = some (.int .i64 Nw.seq) ∧ wx.cell? ⟨qn, 5, none⟩ = some (.int .i64 Nw.kind) ∧ wx.cell? ⟨qn, 6, none⟩ = some Nw.vv) ∧ (wx.cell? ⟨qf, 0, none⟩ = some D2.vr ∧ wx.cell? ⟨qf, 1, none⟩ = some (.int .i64 D2.fam) ∧ wx.cell? ⟨qf, 2, none⟩ = some D2.vq ∧ wx.cell? ⟨qf, 3, none⟩ = some (.int .i64 D2.ts) ∧ wx.cell? ⟨qf, 4, none⟩ = some (.int .i64 D2.seq) ∧ wx.cell? ⟨qf, 5, none⟩ = some (.int .i64 D2.kind) ∧ wx.cell? ⟨qf, 6, none⟩ = some D2.vv) ∧ (wx.cell? ⟨(w.heap.size + 1), 0, none⟩ = some o.vr ∧ wx.cell? ⟨(w.heap.size + 1), 1, none⟩ = some (.int .i64 o.fam) ∧ wx.cell? ⟨(w.heap.size + 1), 2, none⟩ = some o.vq ∧ wx.cell? ⟨(w.heap.size + 1), 3, none⟩ = some (.int .i64 o.ts) ∧ wx.cell? ⟨(w.heap.size + 1), 4, none⟩ = some (.int .i64 o.seq) ∧ wx.cell? ⟨(w.heap.size + 1), 5, none⟩ = some (.int .i64 o.kind) ∧ wx.cell? ⟨(w.heap.size + 1), 6, none⟩ = some o.vv)) (first | exact KS.out _ D0 | exact KS.out _ DD1 | exact KS.out _ DD2 | exact KS.out _ DD3 | exact KS.out _ DD4)
        (first
          | (go_at_call 36; refine (C1.out _ D0).mono ?_; rintro e1 w10 ⟨rfl, hb10⟩; have DD1 := D0.trans (hb10.mono D0.size))
          | (go_at_call 22; refine (C4.out _ _ DD3 HP.out.1 HP.out.2).mono ?_; rintro e4 w13 ⟨rfl, hb13⟩; have DD4 := DD3.trans (hb13.mono DD3.size))
          | (go_at_call 22; refine (C2.out _ DD1).mono ?_; rintro e2 w11 ⟨rfl, hb11⟩; have DD2 := DD1.trans (hb11.mono DD1.size))
          | (go_at_call 19; refine (entry_any (C3.out _ DD2)).mono ?_; rintro e3 w12 ⟨P, rfl, sp, lp, hb12⟩; have DD3 := DD2.trans (hb12.mono DD2.size); have HP := Lib.hid (And.intro (lp.ok (HK.out.2.2.2.2.2.same sp)) sp)))
      have AGB := Lib.hid (AG9.out.later DD4)
      clear D0 DD1 DD2 DD3 DD4 hb10 hb11 hb12 hb13 KS C1 C2 C3 C4 AG9 NW9 HP
      by_cases hlt : t < nt
      · have hlt2 : (t : Int) < (nt : Int) := by omega
        have ht0 : (0 : Int) ≤ (t : Int) := by omega
        obtain ⟨tb, toff, f, rfl, hcT, htb⟩ : ∃ tb toff f, at0 = some ⟨tb, toff, none⟩ ∧ (w.cell? ⟨tb, toff + t * 3, none⟩ = some (.int .i64 (TurnD.k f)) ∧ w.cell? ⟨tb, toff + t * 3 + 1, none⟩ = some (.int .i64 (TurnD.a f)) ∧ w.cell? ⟨tb, toff + t * 3 + 2, none⟩ = some (.int .i64 (TurnD.b f))) ∧ tb < w.heap.size := by
          obtain ⟨a', cap', h1, _, _, _, h5⟩ := HT.out
          simp only [Value.slice.injEq] at h1
          obtain ⟨rfl, hl, rfl⟩ := h1
          rcases h5 with h5 | ⟨b, off, rfl, hc⟩
          · rw [h5] at hl; simp at hl; omega
          · have hti : t < tl.length := by omega
            have h6 := hc t tl[t] (List.getElem?_eq_getElem hti)
            exact ⟨b, off, tl[t], rfl, h6, World.block_lt_of_cell? w _ h6.1⟩
        have HCT := Lib.hid hcT
        have HTB := Lib.hid htb
        clear hcT htb
        have D0 : Below w13.heap.size w13 w13.drew := (Below.refl _ _).drew
        have AGD := Lib.hid (AGB.out.later D0)
        have C13 := HCT.out
        rw [← AGB.out.bel.cell (p := ⟨tb, toff + t * 3, none⟩) HTB.out, ← AGB.out.bel.cell (p := ⟨tb, toff + t * 3 + 1, none⟩) HTB.out, ← AGB.out.bel.cell (p := ⟨tb, toff + t * 3 + 2, none⟩) HTB.out] at C13
        go_wp2_with fail
        refine again3_region (e0 := ⟨.slice (some ⟨gr, 0, none⟩) nr cr, fam, .slice (some ⟨gq, 0, none⟩) nq cq, ts, sq, kd, .slice (some ⟨gv, 0, none⟩) nv cv, row, qual, val⟩) (bv0 := .slice (some ⟨gb, 0, none⟩) nb cb) (f := f) AGB.out.ei C13 hlt (turned_any AGD.out.li AGD.out.fi AGD.out.lb AGD.out.hb NE.out.1) _ (fun r w14 hr => ?_)
        obtain ⟨D, bs', oo, rfl, ⟨e1, e2, e3⟩, lD, fD, lB, hB, gr1, hor⟩ := hr
        obtain ⟨vr, fam', vq, ts', sq', kd', vv, row', qual', val'⟩ := D
        simp only at e1 e2 e3
        subst e1 e2 e3
        have NZ : ∀ z, oo = some z → z = gb ∨ z = gr ∨ z = gq ∨ z = gv := fun z hz => by
          rcases hor with h | h | h | h | h <;> rw [h] at hz <;> cases hz
          · exact .inl rfl
          · exact .inr (.inl rfl)
          · exact .inr (.inr (.inl rfl))
          · exact .inr (.inr (.inr rfl))
        have NX : ∀ z, oo = some z → ∀ q d, EBox w13.drew q d → q ≠ z := fun z hz q d hq e => by
          subst e
          rcases NZ _ hz with h | h | h | h <;> subst h
          · exact laid_ebox AGD.out.lb hq
          · exact laid_ebox AGD.out.li.1 hq
          · exact laid_ebox AGD.out.li.2.1 hq
          · exact laid_ebox AGD.out.li.2.2 hq
        have X14 := AGD.out.ei.far gr1 (fun z hz => NX z hz _ _ AGD.out.ei)
        have F14 := AGD.out.ef.far gr1 (fun z hz => NX z hz _ _ AGD.out.ef)
        have O14 := AGD.out.eo.far gr1 (fun z hz => NX z hz _ _ AGD.out.eo)
        have LF14 : LaidE w14 w.heap.size D2 := ⟨AGD.out.lf.1.far gr1 (fun z hz h => (NE.out.2 z (NZ z hz)).2.2.1 h), AGD.out.lf.2.1.far gr1 (fun z hz h => (NE.out.2 z (NZ z hz)).2.2.2.1 h), AGD.out.lf.2.2.far gr1 (fun z hz h => (NE.out.2 z (NZ z hz)).2.2.2.2 h)⟩
        have B14 : Below w.heap.size w w14 := AGD.out.bel.grown gr1 AGD.out.bel.size (fun z hz => (NE.out.2 z (NZ z hz)).1)
        have fa := filled_apart w14 qi ⟨.slice (some ⟨gr, 0, none⟩) nr cr, fam', .slice (some ⟨gq, 0, none⟩) nq cq, ts', sq', kd', .slice (some ⟨gv, 0, none⟩) nv cv, row', qual', val'⟩
        have B15 := B14.trans (fa.below (by have := HQI.out; omega) B14.size)
        have TC : ∀ wx, Below w.heap.size w wx → (wx.cell? ⟨tb, toff + t * 3, none⟩ = some (.int .i64 f.k) ∧ wx.cell? ⟨tb, toff + t * 3 + 1, none⟩ = some (.int .i64 f.a) ∧ wx.cell? ⟨tb, toff + t * 3 + 2, none⟩ = some (.int .i64 f.b)) := fun wx h => by
          have hC := HCT.out
          rw [← h.cell (p := ⟨tb, toff + t * 3, none⟩) HTB.out, ← h.cell (p := ⟨tb, toff + t * 3 + 1, none⟩) HTB.out, ← h.cell (p := ⟨tb, toff + t * 3 + 2, none⟩) HTB.out] at hC
          exact hC
        have AG15 : Hid (Ag w (filled w14 qi ⟨.slice (some ⟨gr, 0, none⟩) nr cr, fam', .slice (some ⟨gq, 0, none⟩) nq cq, ts', sq', kd', .slice (some ⟨gv, 0, none⟩) nv cv, row', qual', val'⟩) o qi qf (.slice (some ⟨gb, 0, none⟩) nb cb) ⟨.slice (some ⟨gr, 0, none⟩) nr cr, fam', .slice (some ⟨gq, 0, none⟩) nq cq, ts', sq', kd', .slice (some ⟨gv, 0, none⟩) nv cv, row', qual', val'⟩ D2 bs') := ⟨filled_box X14 _, F14.apart fa (Ne.symm HNQ.out), O14.apart fa (by have := HQI.out; omega), lD.fillE X14, LF14.fillE X14, lB.fillB X14, fD, hB, B15⟩
        refine ⟨⟨.slice (some ⟨gr, 0, none⟩) nr cr, fam', .slice (some ⟨gq, 0, none⟩) nq cq, ts', sq', kd', .slice (some ⟨gv, 0, none⟩) nv cv, row', qual', val'⟩, _, w.heap.size, rfl, X14, lD, TC _ B14, TC _ B15, ?_⟩
        clear NZ NX X14 F14 O14 LF14 B14 B15 fa TC lD fD lB hB gr1 hor C13 D0 AGD AGB HCT HTB
        unfold again3Act
        simp only [EntD.cells]
        generalize hFW : filled w14 qi ⟨.slice (some ⟨gr, 0, none⟩) nr cr, fam', .slice (some ⟨gq, 0, none⟩) nq cq, ts', sq', kd', .slice (some ⟨gv, 0, none⟩) nv cv, row', qual', val'⟩ = wz at AG15 ⊢
        clear hFW
        go_wp2
        go_roundw
        case rel => exact ⟨t + 1, by omega, by omega, by go_num, fam', ts', sq', kd', row', qual', val', bs', AG15⟩
        case measure => simp [intOf]; omega
      · have hge : (nt : Int) ≤ (t : Int) := by omega
        go_wp2
        go_roundw
        case rel => exact ⟨t + 1, by omega, by omega, by go_num, fam, ts, sq, kd, row, qual, val, bs, AGB⟩
        case measure => simp [intOf]; omega
    · have AGZ := AG
      by_cases hn : t ≤ nt
      · have h1 : (t : Int) ≤ (nt : Int) := by omega
        have h2 : (30 : Int) < (t : Int) := by omega
        go_wp2_with fail
        refine (told_any _).mono ?_
        rintro q wz ⟨rfl, hbz⟩
        go_wp2
        go_ret
        exact ⟨rfl, AGZ.out.bel.trans (hbz.mono AGZ.out.bel.size)⟩
      · have h1 : (nt : Int) < (t : Int) := by omega
        go_wp2_with fail
        refine (told_any _).mono ?_
        rintro q wz ⟨rfl, hbz⟩
        go_wp2
        go_ret
        exact ⟨rfl, AGZ.out.bel.trans (hbz.mono AGZ.out.bel.size)⟩

end Go.Proofs.Ythpdlclgiggekaa

namespace Go.Proofs.Ythpdlclgiggekaa
open Go.ChangeShapes Go.WideShapes Go.ChangeAt Go.RowKit
set_option linter.unusedVariables false

theorem own_knob : ownKnob Try.prog.godebug = none := by kernel_rfl
theorem laid_out : laidOutB Try.prog = true := by kernel_rfl
theorem und_int : Try.prog.underlying 3 = some (.int .i64) := by kernel_rfl
theorem und_u64 : Try.prog.underlying 110 = some (.int .u64) := by kernel_rfl
theorem und_bool : Try.prog.underlying 4 = some .bool := by kernel_rfl
theorem cells_byte : Try.prog.cellsOf 5 = 1 := by kernel_rfl
theorem cells_bytes : Try.prog.cellsOf 33 = 1 := by kernel_rfl

theorem bulk_pos {H : Type} (d : DataW H) : 1 ≤ Rows.uptoBulk d := by
  cases d with
  | lit l => cases l <;> simp [Rows.uptoBulk]
  | nil => simp [Rows.uptoBulk]
  | ptr d => simp [Rows.uptoBulk]
  | slice elems spare => simp [Rows.uptoBulk]
  | agg parts => simp [Rows.uptoBulk]
  | iface t d => simp [Rows.uptoBulk]
  | map entries => simp [Rows.uptoBulk]
  | held h => simp [Rows.uptoBulk]
theorem bulk_len {H : Type} (l : List (DataW H)) : l.length ≤ Rows.uptoBulkAll l := by
  induction l with
  | nil => simp [Rows.uptoBulkAll]
  | cons x r ih => have := bulk_pos x; simp only [Rows.uptoBulkAll, List.length_cons]; omega

/-- A slice of bytes that came in. -/
theorem open_bytes {H : Type} {enc : TypeId × Value → H} {W : World} {v : Value} {d : DataW H} {p : List MemPlace} {base : Nat} {held : Bool} (h : DataW.Trod enc Try.prog W base (fun _ => true) held 33 v d p) (hs : ∃ a n c, v = .slice a n c) :
    ∃ bs : List Nat, (bs.length ≤ 281474976710656 → Rd W v bs) ∧ bs.length + 1 ≤ Rows.uptoBulk d ∧ (bs = [] ∨ ∃ elems spare, d = .slice elems spare ∧ elems.length = bs.length) := by
  obtain ⟨a, n, c, rfl⟩ := hs
  obtain ⟨fuel, hf⟩ := h
  rcases open_ints und_bytes und_byte cells_byte hf with ⟨hcs, hx⟩ | ⟨x, l, c', zs, hcs, _, hl, hm, hz, hx, hcell, hwz⟩
  · simp [Value.cells] at hcs
    obtain ⟨rfl, rfl, rfl⟩ := hcs
    refine ⟨[], fun _ => Rd.nil W, ?_, .inl rfl⟩
    have := bulk_pos d
    simpa using this
  · simp [Value.cells] at hcs
    obtain ⟨rfl, rfl, rfl⟩ := hcs
    simp only [if_true] at hz
    simp only [Prod.mk.injEq] at hx
    obtain ⟨rfl, _⟩ := hx
    have hby : ∀ i, i < zs.length → 0 ≤ zs.getD i 0 ∧ zs.getD i 0 < 256 := by
      intro i hi
      have hmem : zs.getD i 0 ∈ zs := by simp [List.getD, List.getElem?_eq_getElem hi]
      have := bounds_u8 (hwz _ hmem)
      omega
    refine ⟨(zs.take n).map Int.toNat, fun hlen => ⟨?_, some x, c, ?_, ?_, hm, hlen, ?_, ?_⟩, ?_, .inr ⟨_, _, rfl, by simp [lits]⟩⟩
    · intro y hy
      simp only [List.mem_map] at hy
      obtain ⟨z, hz1, rfl⟩ := hy
      have := bounds_u8 (hwz z (List.mem_of_mem_take hz1))
      omega
    · simp; omega
    · simp; omega
    · by_cases hc0 : c = 0
      · exact .inl hc0
      · right
        obtain ⟨b, off, spot⟩ := x
        have hc := hcell 0 (by omega)
        have hspot : spot = none := by simpa [Addr.add] using World.cell?_spot hc
        subst hspot
        exact ⟨b, off, rfl⟩
    · by_cases hn0 : n = 0
      · left; simp [hn0]
      · right
        obtain ⟨b, off, spot⟩ := x
        have hc := hcell 0 (by omega)
        have hspot : spot = none := by simpa [Addr.add] using World.cell?_spot hc
        subst hspot
        refine ⟨b, off, rfl, fun i hi => ?_⟩
        have hin : i < n := by simp at hi; omega
        have hc := hcell i (by omega)
        have e : (⟨b, off, none⟩ : Addr).add i = ⟨b, off + i, none⟩ := by unfold Addr.add; split <;> simp_all
        rw [e] at hc
        rw [hc]
        have hb := hby i (by omega)
        have e2 : ((zs.take n).map Int.toNat).getD i 0 = (zs.getD i 0).toNat := by
          simp [List.getElem?_take_of_lt hin, List.getElem?_eq_getElem (show i < zs.length by omega)]
        rw [e2, Int.toNat_of_nonneg hb.1]
    · have h1 := bulk_len (H := H) (lits .u8 (zs.take n))
      simp only [Rows.uptoBulk]
      simp [lits] at h1 ⊢
      omega

/-- What the reach gives of a slice of bytes. -/
theorem reach_bytes {H : Type} {ts : List TypeId} {ds gs : List (DataW H)} (h : (DataW.weightsEach Try.prog ts (ds ++ gs)).all (fun x => decide (x ≤ reachBytes)) = true) (j : Nat) (ht : ts[j]? = some 33) {d : DataW H} (hd : ds[j]? = some d) {bs : List Nat} (hx : bs = [] ∨ ∃ elems spare, d = .slice elems spare ∧ elems.length = bs.length) : bs.length ≤ 140737488351232 := by
  rcases hx with rfl | ⟨elems, spare, rfl, hl⟩
  · simp
  · have hd2 : (ds ++ gs)[j]? = some (.slice elems spare) := by
      rw [List.getElem?_append_left (List.getElem?_eq_some_iff.1 hd).1]
      exact hd
    have := sized_slice h ht hd2 und_bytes
    rw [show Try.prog.bytesOf 5 = 1 by kernel_rfl] at this
    unfold reachBytes at this
    omega

end Go.Proofs.Ythpdlclgiggekaa

namespace Go.Proofs.Ythpdlclgiggekaa
open Go.ChangeShapes Go.WideShapes Go.ChangeAt Go.RowKit
set_option linter.unusedVariables false

set_option maxRecDepth 100000 in
theorem und_entry : Try.prog.underlying 35 = some (.struct #[{ name := "Row", type := 33, offset := 0, embedded := false, tag := "", pkgPath := "", byteOffset := 0 }, { name := "Fam", type := 3, offset := 1, embedded := false, tag := "", pkgPath := "", byteOffset := 24 }, { name := "Qual", type := 33, offset := 2, embedded := false, tag := "", pkgPath := "", byteOffset := 32 }, { name := "Ts", type := 3, offset := 3, embedded := false, tag := "", pkgPath := "", byteOffset := 56 }, { name := "Seq", type := 3, offset := 4, embedded := false, tag := "", pkgPath := "", byteOffset := 64 }, { name := "Kind", type := 3, offset := 5, embedded := false, tag := "", pkgPath := "", byteOffset := 72 }, { name := "Value", type := 33, offset := 6, embedded := false, tag := "", pkgPath := "", byteOffset := 80 }]) := by kernel_rfl
theorem cells_entry : Try.prog.cellsOf 35 = 7 := by kernel_rfl
theorem cells_int : Try.prog.cellsOf 3 = 1 := by kernel_rfl

theorem slice_one {H : Type} {enc : TypeId × Value → H} {W : World} {base fuel : Nat} {held : Bool} {t e : TypeId} {c : Value} {x : DataW H × List MemPlace} (hu : Try.prog.underlying t = some (.slice e)) (h : DataW.trod enc Try.prog W base (fun _ => true) held fuel t [c] = some x) : (∃ a n k, c = .slice a n k) ∧ DataW.Trod enc Try.prog W base (fun _ => true) held t c x.1 x.2 := by
  have hsl : ∃ a n k, c = .slice a n k := by
    rcases DataW.trod_slice hu h with ⟨h0, _⟩ | ⟨a, len, cap, _, _, _, _, h0, _⟩
    · simp at h0; exact ⟨_, _, _, h0⟩
    · simp at h0; exact ⟨_, _, _, h0⟩
  refine ⟨hsl, fuel, ?_⟩
  obtain ⟨a, n, k, rfl⟩ := hsl
  simpa [Value.cells] using h

set_option maxRecDepth 100000 in
/-- An entry that came in. -/
theorem open_entry {H : Type} {enc : TypeId × Value → H} {W : World} {base : Nat} {held : Bool} {v : Value} {d : DataW H} {p : List MemPlace} (h0 : DataW.Trod enc Try.prog W base (fun _ => true) held 35 v d p) (hv : ∃ cs, v = .agg cs ∧ cs.size = Try.prog.cellsOf 35) :
    ∃ e : EntD, v = .agg e.cells ∧ ((e.row.length ≤ 281474976710656 ∧ e.qual.length ≤ 281474976710656 ∧ e.val.length ≤ 281474976710656) → EntD.Ok W e) ∧ (e.row.length + e.qual.length + e.val.length + 8 ≤ Rows.uptoBulk d) ∧
      ((d.weights Try.prog 35).all (fun x => decide (x ≤ reachBytes)) = true → e.row.length ≤ 140737488351232 ∧ e.qual.length ≤ 140737488351232 ∧ e.val.length ≤ 140737488351232) := by
  obtain ⟨csA, rfl, hcs⟩ := hv
  obtain ⟨fuel, h⟩ := h0
  obtain ⟨cs⟩ := csA
  simp only [Value.cells] at h
  obtain ⟨xs, n, hx, hdp, hcl, hxl, hf⟩ := DataW.trod_struct und_entry h
  simp only [Prod.mk.injEq] at hdp
  obtain ⟨rfl, rfl⟩ := hdp
  rw [cells_entry] at hcl
  obtain ⟨c0, c1, c2, c3, c4, c5, c6, rfl⟩ : ∃ c0 c1 c2 c3 c4 c5 c6, cs = [c0, c1, c2, c3, c4, c5, c6] := by
    match cs, hcl with
    | [c0, c1, c2, c3, c4, c5, c6], _ => exact ⟨_, _, _, _, _, _, _, rfl⟩
  obtain ⟨x0, x1, x2, x3, x4, x5, x6, rfl⟩ : ∃ x0 x1 x2 x3 x4 x5 x6, xs = [x0, x1, x2, x3, x4, x5, x6] := by
    match xs, hxl with
    | [c0, c1, c2, c3, c4, c5, c6], _ => exact ⟨_, _, _, _, _, _, _, rfl⟩
  have f0 := hf 0 _ rfl
  have f1 := hf 1 _ rfl
  have f2 := hf 2 _ rfl
  have f3 := hf 3 _ rfl
  have f4 := hf 4 _ rfl
  have f5 := hf 5 _ rfl
  have f6 := hf 6 _ rfl
  simp [cells_int, cells_bytes] at f0 f1 f2 f3 f4 f5 f6
  obtain ⟨n1, e1, b1, w1⟩ := DataW.trod_int und_int f1
  obtain ⟨n3, e3, b3, w3⟩ := DataW.trod_int und_int f3
  obtain ⟨n4, e4, b4, w4⟩ := DataW.trod_int und_int f4
  obtain ⟨n5, e5, b5, w5⟩ := DataW.trod_int und_int f5
  simp at e1 e3 e4 e5
  subst e1 e3 e4 e5
  obtain ⟨s0, t0⟩ := slice_one und_bytes f0
  obtain ⟨s2, t2⟩ := slice_one und_bytes f2
  obtain ⟨s6, t6⟩ := slice_one und_bytes f6
  obtain ⟨row, hr, hrl, hrd⟩ := open_bytes t0 s0
  obtain ⟨qual, hq, hql, hqd⟩ := open_bytes t2 s2
  obtain ⟨val, hw, hwl, hwd⟩ := open_bytes t6 s6
  refine ⟨⟨c0, n1, c2, n3, n4, n5, c6, row, qual, val⟩, rfl, fun h => ⟨hr h.1, hq h.2.1, hw h.2.2⟩, ?_, fun hs => ?_⟩
  · have q1 := bulk_pos x1.1
    have q3 := bulk_pos x3.1
    have q4 := bulk_pos x4.1
    have q5 := bulk_pos x5.1
    simp only [Rows.uptoBulk, List.map_cons, List.map_nil, Rows.uptoBulkAll]
    omega
  · have hs2 : (DataW.weightsEach Try.prog [33, 3, 33, 3, 3, 3, 33] ([x0.1, x1.1, x2.1, x3.1, x4.1, x5.1, x6.1] ++ [])).all (fun x => decide (x ≤ reachBytes)) = true := by
      simp only [DataW.weights, und_entry] at hs
      simpa using hs
    exact ⟨reach_bytes hs2 0 rfl rfl hrd, reach_bytes hs2 2 rfl rfl hqd, reach_bytes hs2 6 rfl rfl hwd⟩

/-- The weights of one argument. -/
theorem weight_at {H : Type} : ∀ {ts : List TypeId} {ds : List (DataW H)} (h : (DataW.weightsEach Try.prog ts ds).all (fun x => decide (x ≤ reachBytes)) = true) (j : Nat) {t : TypeId} {d : DataW H} (ht : ts[j]? = some t) (hd : ds[j]? = some d), (d.weights Try.prog t).all (fun x => decide (x ≤ reachBytes)) = true
  | [], _, _, j, _, _, ht, _ => by simp at ht
  | _ :: _, [], _, j, _, _, _, hd => by simp at hd
  | t :: ts, d :: ds, h, 0, _, _, ht, hd => by
    simp only [List.getElem?_cons_zero, Option.some.injEq] at ht hd
    subst ht hd
    simp only [DataW.weightsEach, List.all_append, Bool.and_eq_true] at h
    exact h.1
  | t :: ts, d :: ds, h, j + 1, _, _, ht, hd => by
    simp only [DataW.weightsEach, List.all_append, Bool.and_eq_true] at h
    exact weight_at h.2 j (by simpa using ht) (by simpa using hd)

end Go.Proofs.Ythpdlclgiggekaa
