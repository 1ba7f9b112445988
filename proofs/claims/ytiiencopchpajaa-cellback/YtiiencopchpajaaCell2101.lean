import Derived.Test.YtiiencopchpajaaCell20
import Derived.Lib.Hide
namespace Go.Proofs.Ytiiencopchpajaa
open Go.RowKit
set_option linter.unusedVariables false

set_option maxRecDepth 100000 in
set_option maxHeartbeats 8000000 in
theorem back_ok01 {e : EntD} {w : World} {an aa ah : Option Addr} {mn cn ma ca mh ch : Nat} {ns us hs : List Nat} (hok : EntD.Ok w e) (hn : Rd w (.slice an mn cn) ns) (hl : ns.length ≤ 140737488351232) (hc : checkS e = 0)
    (ra0 : Rd w (.slice aa ma ca) us) (rh0 : Rd w (.slice ah mh ch) hs) (hma : ma ≤ 1048576) (hmh : 1048576 < mh) :
    Calls Try.prog 6 #[.agg e.cells, .slice aa ma ca, .slice ah mh ch, .slice an mn cn] w fun r w' => r = .returned (.bool true) ∧ Below w.heap.size w w' := by
  obtain ⟨⟨K, Q1, F1⟩, k1⟩ : ∃ x, bytesR ns 0 1048 = x := ⟨_, rfl⟩
  obtain ⟨⟨V, Q2, F2⟩, k2⟩ : ∃ x, bytesR ns Q1 4096 = x := ⟨_, rfl⟩
  have HQ : Hid (bytesR ns 0 1048 = (K, Q1, F1) ∧ bytesR ns Q1 4096 = (V, Q2, F2)) := ⟨k1, k2⟩
  have HN : Hid (Rd w (.slice an mn cn) ns) := hn
  have HL : Hid (ns.length ≤ 140737488351232) := hl
  have HE : Hid (EntD.Ok w e ∧ checkS e = 0) := ⟨hok, hc⟩
  have RA : Hid (Rd w (.slice aa ma ca) us) := ra0
  have pma : (ma : Int) ≤ 1048576 := by omega
  clear ra0
  rcases rd_some rh0 with ⟨_, h0, _⟩ | ⟨bah, oah, eah⟩
  · omega
  subst eah
  have RH : Hid (Rd w (.slice (some ⟨bah, oah, none⟩) 1048576 ch) (hs.take 1048576)) := rh0.upto 1048576 (by omega)
  have pmh : (1048576 : Int) < (mh : Int) := by omega
  have qmh : (1048576 : Int) ≤ (ch : Int) := by have := (rd_lens rh0).2.1; omega
  clear rh0
  have A1 := (Below.refl w.heap.size w).alloc (Nat.le_refl _) (.cells e.cells 35)
  have b1 := EBox.new w e
  have HX : Hid (_ ∧ _) := ⟨b1, A1⟩
  obtain ⟨xr, mr, cr, er⟩ := rd_slice hok.1
  obtain ⟨xq, mq, cq, eq⟩ := rd_slice hok.2.1
  obtain ⟨xv, mv, cv, ev⟩ := rd_slice hok.2.2
  have HEV : Hid (e.vr = .slice xr mr cr ∧ e.vq = .slice xq mq cq ∧ e.vv = .slice xv mv cv) := ⟨er, eq, ev⟩
  clear k1 k2 hn hl hok hc A1 b1 er eq ev
  simp only [EntD.cells] at HX ⊢
  go_enter Try.func6, Try.ntmps6
  go_wp2_with fail
  refine (told_any _).mono ?_
  rintro r w1 ⟨rfl, hb1⟩
  have B1 := HX.out.2.trans (hb1.mono HX.out.2.size)
  have bx1 : Hid (EBox w1 w.heap.size e) := HX.out.1.later hb1
  clear HX hb1
  obtain ⟨z0, z1, z2, z3, z4, z5, z6⟩ := bx1.out.cells7
  have HC2 : Hid (Calls _ _ _ _ _) := key_ok (HE.out.1.later B1) HE.out.2
  simp only [EntD.cells] at HC2
  go_wp2_with fail
  refine HC2.out.mono ?_
  rintro r w2 ⟨a2, m2, c2, rfl, own2, hb2⟩
  have B2 := B1.trans (hb2.mono B1.size)
  have bx2 : Hid (EBox w2 w.heap.size e) := bx1.out.later hb2
  have R2 : Hid (Rd w2 (.slice a2 m2 c2) (keyL e)) := own2.rd (keyL_bys HE.out.1.1.1 HE.out.1.2.1.1 HE.out.2) (by rw [own2.1]; have := keyL_len2 HE.out.2; omega)
  clear HC2 hb2 B1 bx1 z0 z1 z2 z3 z4 z5 z6 own2
  obtain ⟨z0, z1, z2, z3, z4, z5, z6⟩ := bx2.out.cells7
  have c3 := check_any (HE.out.1.later B2)
  rw [HE.out.2] at c3
  have HC3 : Hid (Calls _ _ _ _ _) := c3
  clear c3
  simp only [EntD.cells] at HC3
  go_wp2_with fail
  refine HC3.out.mono ?_
  rintro r w3 ⟨rfl, hb3⟩
  have B3 := B2.trans (hb3.mono B2.size)
  have bx3 : Hid (EBox w3 w.heap.size e) := bx2.out.later hb3
  have R3 : Hid (Rd w3 (.slice a2 m2 c2) (keyL e)) := R2.out.later hb3
  clear HC3 hb3 B2 z0 z1 z2 z3 z4 z5 z6 bx2 R2
  go_wp2_with fail
  refine (parse_any R3.out (by have := keyL_len2 HE.out.2; omega)).mono ?_
  rintro r w4 ⟨hb4, hp⟩
  have B4 := B3.trans (hb4.mono B3.size)
  have bx4 : Hid (EBox w4 w.heap.size e) := bx3.out.later hb4
  clear B3 hb4 bx3 R3
  rcases hp with ⟨D, hc, hv, hk, hbr, hbq, hvv, rfl, o1, B, hB, o2, _⟩ | ⟨hno, rfl⟩
  rotate_left
  · exact absurd ⟨⟨.slice none 0 0, e.fam, .slice none 0 0, e.ts, e.seq, e.kind, .slice none 0 0, e.row, e.qual, []⟩, check_drop HE.out.2 _ _ _, rfl, rfl⟩ hno
  have HSM : Hid (EntD.Same D ⟨.slice xr mr cr, e.fam, .slice xq mq cq, e.ts, e.seq, e.kind, .slice none 0 0, e.row, e.qual, []⟩) := by
    obtain ⟨s1, s2, s3, s4, s5, s6⟩ := key_same hc HE.out.2 hk
    exact ⟨s1, s2, s3, s4, s5, s6, hv⟩
  have okD : EntD.Ok w4 D := ⟨by have := o1.rd hbr (by have := (check_facts hc).1.2; omega); exact this, o2.rd hbq (by have := (check_facts hc).2.2.1; omega), by rw [hvv, hv]; exact Rd.nil _⟩
  have okB : EntD.Ok w4 ⟨.slice xr mr cr, e.fam, .slice xq mq cq, e.ts, e.seq, e.kind, .slice none 0 0, e.row, e.qual, []⟩ := ⟨by have := HE.out.1.1.later B4; rw [HEV.out.1] at this; exact this, by have := HE.out.1.2.1.later B4; rw [HEV.out.2.1] at this; exact this, Rd.nil _⟩
  obtain ⟨yr, wr, er⟩ := own_form o1.2
  obtain ⟨yq, wq, eq⟩ := own_form o2.2
  obtain ⟨vr, fam, vq, ts, sq, kd, vv, row, qual, val⟩ := D
  simp only at er eq hv hvv
  subst er eq hv hvv
  have A5 := (Below.refl w4.heap.size w4).alloc (Nat.le_refl _) (.cells (EntD.cells ⟨.slice yr row.length wr, fam, .slice yq qual.length wq, ts, sq, kd, .slice none 0 0, row, qual, []⟩) 35)
  have b5 := EBox.new w4 ⟨.slice yr row.length wr, fam, .slice yq qual.length wq, ts, sq, kd, .slice none 0 0, row, qual, []⟩
  have A6 := A5.alloc A5.size (.cells (EntD.cells ⟨.slice xr mr cr, e.fam, .slice xq mq cq, e.ts, e.seq, e.kind, .slice none 0 0, e.row, e.qual, []⟩) 35)
  have c6 := sameEntry_eq (okD.later A6) (okB.later A6) HSM.out
  have bx6 := bx4.out.later A6
  have HX6 : Hid (_ ∧ _ ∧ Calls _ _ _ _ _) := ⟨A6, bx6, c6⟩
  have bx5 := bx4.out.later A5
  simp only [EntD.cells] at bx5
  obtain ⟨z0, z1, z2, z3, z4, z5, z6⟩ := bx5.cells7
  rw [HEV.out.1] at z0
  rw [HEV.out.2.1] at z2
  rw [HEV.out.2.2] at z6
  clear A5 b5 A6 c6 bx6 okD okB HSM hc hk hbr hbq o1 o2 hB bx5
  simp only [EntD.cells] at HX6 ⊢
  go_wp2_with fail
  refine HX6.out.2.2.mono ?_
  rintro r w7 ⟨rfl, hb7⟩
  have hb47 := HX6.out.1.trans (hb7.mono HX6.out.1.size)
  have B7 := B4.trans (hb47.mono B4.size)
  have bx7 : Hid (EBox w7 w.heap.size e) := HX6.out.2.1.later hb7
  clear HX6 hb7 hb47 B4 bx4 z0 z1 z2 z3 z4 z5 z6
  obtain ⟨z0, z1, z2, z3, z4, z5, z6⟩ := bx7.out.cells7
  have HC8 : Hid (Calls _ _ _ _ _) := pack_ok (HE.out.1.later B7) HE.out.2
  simp only [EntD.cells] at HC8
  go_wp2_with fail
  refine HC8.out.mono ?_
  rintro r w8 ⟨a8, m8, c8, rfl, own8, hb8⟩
  have B8 := B7.trans (hb8.mono B7.size)
  have bx8 : Hid (EBox w8 w.heap.size e) := bx7.out.later hb8
  have hm8 : m8 = (packL e).length := own8.1
  have R8 : Hid (Rd w8 (.slice a8 m8 c8) (packL e)) := own8.rd (packL_bys HE.out.1.1.1 HE.out.1.2.1.1 HE.out.1.2.2.1 HE.out.2) (by rw [own8.1]; have := packL_len HE.out.2; omega)
  have HM8 : Hid (m8 = (packL e).length) := hm8
  have hm8b : m8 ≤ 6000 := by rw [hm8]; exact packL_len HE.out.2
  clear HC8 hb8 B7 bx7 z0 z1 z2 z3 z4 z5 z6 own8 hm8
  have ra8 := RA.out.later B8
  go_wp2_with (at_builtin; refine wpList_append_at rfl _ _ rfl w8.heap.size none 0 0 [] rfl ⟨rfl, World.ownsRow_nil _ _ _ _⟩ aa ma ca _ rfl ra8 (by omega) (Nat.le_refl _) ?_; intro a9 m9 c9 w9 own9 hb9; refine Hid.out ?_)
  refine Lib.hid ?_
  rw [List.nil_append] at own9
  have hm9 : Hid (m9 = ma) := by unfold Hid; rw [own9.1]; exact ((rd_lens RA.out).1).symm
  have hm9b : m9 ≤ 1048576 := by have := hm9.out; omega
  have r89 := R8.out.later hb9
  go_wp2_with (at_builtin; refine wpList_append_at rfl _ _ rfl w8.heap.size a9 m9 c9 _ rfl own9 a8 m8 c8 _ rfl r89 (by omega) hb9.size ?_; intro a10 m10 c10 w10 own10 hb10; refine Hid.out ?_)
  refine Lib.hid ?_
  have hb810 := hb9.trans hb10
  have hm10 : Hid (m10 = m9 + m8) := by unfold Hid; rw [own10.1, List.length_append, ← own9.1, ← HM8.out]
  have hm10b : m10 ≤ 1054576 := by have := hm10.out; omega
  have rh10 := (RH.out.later B8).later hb810
  clear own9 hb9 hb10 r89
  go_wp2_with (at_builtin; refine wpList_append_at rfl _ _ rfl w8.heap.size a10 m10 c10 _ rfl own10 (some ⟨bah, oah, none⟩) 1048576 ch _ rfl rh10 (by omega) hb810.size ?_; intro a11 m11 c11 w11 own11 hb11; refine Hid.out ?_)
  refine Lib.hid ?_
  have hb811 := hb810.trans hb11
  have B11 := B8.trans (hb811.mono B8.size)
  have bx11 : Hid (EBox w11 w.heap.size e) := bx8.out.later hb811
  have hm11 : m11 = m10 + 1048576 := by have q := (rd_lens RH.out).1; rw [own11.1, List.length_append, ← own10.1]; omega
  have hm11b : m11 ≤ 4000000 := by omega
  have R11 : Hid (Rd w11 (.slice a11 m11 c11) ((us ++ packL e) ++ (hs.take 1048576))) := own11.rd (Bys.app (Bys.app RA.out.1 (packL_bys HE.out.1.1.1 HE.out.1.2.1.1 HE.out.1.2.2.1 HE.out.2)) RH.out.1) (by omega)
  have HLN : Hid (((us ++ packL e) ++ (hs.take 1048576)).length ≤ 140737488355328 ∧ ma = (us).length) := ⟨by rw [← own11.1]; omega, (rd_lens RA.out).1⟩
  clear own11 own10 hb11 hb810 hb811 B8 bx8 hm11 hm10 hm9 ra8 rh10 R8
  obtain ⟨t1, t2⟩ := pack_trip HE.out.2 us (hs.take 1048576)
  rw [← HLN.out.2] at t1 t2
  have HC12 : Hid (Calls _ _ _ _ _) := unpack_any (k := ma) R11.out (by have := HLN.out.2; simp only [List.length_append]; omega) HLN.out.1 t1 t2
  clear t1 t2
  go_wp2_with fail
  refine HC12.out.mono ?_
  rintro r w12 ⟨hb12, hu⟩
  have B12 := B11.trans (hb12.mono B11.size)
  have bx12 : Hid (EBox w12 w.heap.size e) := bx11.out.later hb12
  clear HC12 B11 bx11 hb12 R11
  rcases hu with ⟨D2, _, _, g3, g4, g5, _, _, rfl, ok2⟩ | ⟨E, hE, _, hnn⟩
  rotate_left
  · exact absurd ⟨rfl, rfl, e, HE.out.2, rfl, rfl⟩ hnn
  have HSM : Hid (EntD.Same D2 e) := by
    obtain ⟨s1, s2, s3, s4, s5, s6⟩ := key_same g3 HE.out.2 g5
    exact ⟨s1, s2, s3, s4, s5, s6, g4⟩
  obtain ⟨pr, nr, kr, er⟩ := rd_slice ok2.1
  obtain ⟨pq, nq, kq, eq⟩ := rd_slice ok2.2.1
  obtain ⟨pv, nv, kv, ev⟩ := rd_slice ok2.2.2
  obtain ⟨vr2, fam2, vq2, ts2, sq2, kd2, vv2, row2, qual2, val2⟩ := D2
  simp only at er eq ev
  subst er eq ev
  have A13 := (Below.refl w12.heap.size w12).alloc (Nat.le_refl _) (.cells (EntD.cells ⟨.slice pr nr kr, fam2, .slice pq nq kq, ts2, sq2, kd2, .slice pv nv kv, row2, qual2, val2⟩) 35)
  have c13 := sameEntry_eq (ok2.later A13) ((HE.out.1.later B12).later A13) HSM.out
  have HX13 : Hid (_ ∧ Calls _ _ _ _ _) := ⟨A13, c13⟩
  have bx13 := bx12.out.later A13
  simp only [EntD.cells] at bx13
  obtain ⟨z0, z1, z2, z3, z4, z5, z6⟩ := bx13.cells7
  obtain ⟨y0, y1, y2, y3, y4, y5, y6⟩ := bx12.out.cells7
  have hp2 : ((ma + (packL e).length : Nat) : Int) = ((ma : Nat) : Int) + (m8 : Int) := by have := HM8.out; omega
  rw [hp2]
  clear A13 c13 bx13 bx12 g3 g4 g5 ok2 HSM hp2
  simp only [EntD.cells] at HX13 ⊢
  go_wp2_with fail
  refine HX13.out.2.mono ?_
  rintro r w14 ⟨rfl, hb14⟩
  have hb1214 := HX13.out.1.trans (hb14.mono HX13.out.1.size)
  have BT := B12.trans (hb1214.mono B12.size)
  clear HX13 hb14 hb1214 B12 z0 z1 z2 z3 z4 z5 z6 y0 y1 y2 y3 y4 y5 y6 HE HEV HM8 HLN RA RH hm8b
  go_wp2_with fail
  refine (parse_any (HN.out.later BT) (by have := HL.out; omega)).mono ?_
  rintro e wa ⟨hba, hp⟩
  have BA := BT.trans (hba.mono BT.size)
  clear hba BT
  rcases hp with ⟨D, hc, hv, hk, hbr, hbq, hvv, rfl, o1, B, hB, o2, _⟩ | ⟨hno, rfl⟩
  · obtain ⟨vr, fam, vq, ts, sq, kd, vv, row, qual, val⟩ := D
    simp only at hv hbr hbq hvv o1 o2
    subst hv hvv
    obtain ⟨ar, cr, rfl⟩ := own_form o1.2
    obtain ⟨aq, cq, rfl⟩ := own_form o2.2
    have okD : EntD.Ok wa ⟨.slice ar row.length cr, fam, .slice aq qual.length cq, ts, sq, kd, .slice none 0 0, row, qual, []⟩ := ⟨o1.rd hbr (by have := (check_facts hc).1.2; simp only at this; omega), o2.rd hbq (by have := (check_facts hc).2.2.1; simp only at this; omega), Rd.nil _⟩
    have A2 := (Below.refl wa.heap.size wa).alloc (Nat.le_refl _) (.cells (EntD.cells ⟨.slice ar row.length cr, fam, .slice aq qual.length cq, ts, sq, kd, .slice none 0 0, row, qual, []⟩) 35)
    have b2 := EBox.new wa ⟨.slice ar row.length cr, fam, .slice aq qual.length cq, ts, sq, kd, .slice none 0 0, row, qual, []⟩
    have c2 := key_ok (okD.later A2) hc
    rw [hk] at c2
    have HX2 : Hid (_ ∧ _ ∧ Calls _ _ _ _ _) := ⟨b2, A2, c2⟩
    clear hc hk hbr hbq o1 o2 hB A2 b2 c2 okD
    simp only [EntD.cells] at HX2 ⊢
    go_wp2_with fail
    refine HX2.out.2.2.mono ?_
    rintro e wb ⟨ab, mb, cb, rfl, ownb, hbb⟩
    have hbab := HX2.out.2.1.trans (hbb.mono HX2.out.2.1.size)
    have BB := BA.trans (hbab.mono BA.size)
    have rb := ownb.rd HN.out.1 (by rw [ownb.1]; have := HL.out; omega)
    have xb := (HX2.out.1.later hbb)
    have HXB : Hid (EBox wb wa.heap.size _) := xb
    clear HX2 hbb hbab ownb xb BA
    go_wp2_with fail
    refine (alike_same rb (HN.out.later BB)).mono ?_
    rintro e wb2 ⟨rfl, hb3⟩
    have xv := (HXB.out.later hb3).vv
    simp only at xv
    have BB3 := BB.trans (hb3.mono BB.size)
    clear BB hb3 rb HXB
    have BB := BB3
    clear BB3
    go_wp2_with fail
    refine (unpack_any (k := 0) (HN.out.later BB) (Nat.zero_le _) (by have := HL.out; omega) HQ.out.1 HQ.out.2).mono ?_
    rintro e wc ⟨hbc, hu⟩
    have BC := BB.trans (hbc.mono BB.size)
    clear hbc BB
    rcases hu with ⟨D2, h1, h2, h3, h4, h5, h6, h7, rfl, ok2⟩ | ⟨E, hE, rfl, _⟩
    · have HBK : Hid (packL D2 = ns.take Q2 ∧ 1 ≤ Q2 ∧ Q2 ≤ ns.length) := by
        have k1 := HQ.out.1
        have k2 := HQ.out.2
        rw [h1] at k1
        rw [h2] at k2
        obtain ⟨b1, b2, b3, _⟩ := bytes_back HN.out.1 (Nat.zero_le _) k1
        obtain ⟨b4, b5, b6, _⟩ := bytes_back HN.out.1 b3 k2
        refine ⟨?_, by omega, b6⟩
        unfold packL
        rw [h5, h4, b1, b4, seg_join (Nat.zero_le _) (Nat.le_of_lt b5) b6, List.drop_zero]
      have HOK : Hid (EntD.Ok wc D2 ∧ checkS D2 = 0) := ⟨ok2, h3⟩
      obtain ⟨ar, mr, cr, e1⟩ := rd_slice ok2.1
      obtain ⟨aq, mq, cq, e2⟩ := rd_slice ok2.2.1
      obtain ⟨av, mv, cv, e3⟩ := rd_slice ok2.2.2
      clear h1 h2 h3 h4 h5 h6 h7 ok2
      obtain ⟨vr, fam, vq, ts, sq, kd, vv, row, qual, val⟩ := D2
      simp only at e1 e2 e3
      subst e1 e2 e3
      have A3 := (Below.refl wc.heap.size wc).alloc (Nat.le_refl _) (.cells (EntD.cells ⟨.slice ar mr cr, fam, .slice aq mq cq, ts, sq, kd, .slice av mv cv, row, qual, val⟩) 35)
      have c3 := pack_ok (HOK.out.1.later A3) HOK.out.2
      have HC3 : Hid (_ ∧ Calls _ _ _ _ _) := ⟨A3, c3⟩
      clear A3 c3 HOK
      simp only [EntD.cells] at HC3 ⊢
      go_wp2_with fail
      refine HC3.out.2.mono ?_
      rintro e wd ⟨ad, md, cd, rfl, ownd, hbd⟩
      have hbcd := HC3.out.1.trans (hbd.mono HC3.out.1.size)
      have BD := BC.trans (hbcd.mono BC.size)
      rw [HBK.out.1] at ownd
      obtain rfl : md = Q2 := by rw [ownd.1, List.length_take]; have := HBK.out.2.2; omega
      have rd := ownd.rd (fun x hx => HN.out.1 x (List.mem_of_mem_take hx)) (by have := HBK.out.2.2; have := HL.out; omega)
      have hmn : mn = ns.length := (rd_lens HN.out).1
      have hcn := (rd_lens HN.out).2.1
      rcases rd_some HN.out with ⟨_, h0, _⟩ | ⟨bn, fn, en⟩
      · have := HBK.out.2; omega
      subst en
      have ra := (HN.out.later BD).upto md (by have := HBK.out.2.2; omega)
      have i1 : (md : Int) ≤ (mn : Int) := by have := HBK.out.2.2; omega
      have i2 : (md : Int) ≤ (cn : Int) := by omega
      have i3 : (0 : Int) ≤ (md : Int) := by omega
      clear HC3 hbd hbcd BC ownd hmn HQ
      go_wp2_with fail
      refine (alike_same rd ra).mono ?_
      rintro e we ⟨rfl, hbe⟩
      go_wp2
      go_ret
      exact ⟨by simp, BD.trans (hbe.mono BD.size)⟩
    · have hE' : ¬ ((E : Int) = 0) := by omega
      have hEb : ((E : Int) != 0) = true := by simp; omega
      have A3 := (Below.refl wc.heap.size wc).alloc (Nat.le_refl _) (.cells #[.slice none 0 0, .int .i64 0, .slice none 0 0, .int .i64 0, .int .i64 0, .int .i64 0, .slice none 0 0] 35)
      go_wp2
      go_ret
      exact ⟨rfl, BC.trans (A3.mono BC.size)⟩
  · have BB0 := BA.trans (((Below.refl wa.heap.size wa).alloc (Nat.le_refl _) (.cells #[.slice none 0 0, .int .i64 0, .slice none 0 0, .int .i64 0, .int .i64 0, .int .i64 0, .slice none 0 0] 35)).mono BA.size)
    have BB := BB0
    clear BB0 BA hno
    go_wp2_with fail
    refine (unpack_any (k := 0) (HN.out.later BB) (Nat.zero_le _) (by have := HL.out; omega) HQ.out.1 HQ.out.2).mono ?_
    rintro e wc ⟨hbc, hu⟩
    have BC := BB.trans (hbc.mono BB.size)
    clear hbc BB
    rcases hu with ⟨D2, h1, h2, h3, h4, h5, h6, h7, rfl, ok2⟩ | ⟨E, hE, rfl, _⟩
    · have HBK : Hid (packL D2 = ns.take Q2 ∧ 1 ≤ Q2 ∧ Q2 ≤ ns.length) := by
        have k1 := HQ.out.1
        have k2 := HQ.out.2
        rw [h1] at k1
        rw [h2] at k2
        obtain ⟨b1, b2, b3, _⟩ := bytes_back HN.out.1 (Nat.zero_le _) k1
        obtain ⟨b4, b5, b6, _⟩ := bytes_back HN.out.1 b3 k2
        refine ⟨?_, by omega, b6⟩
        unfold packL
        rw [h5, h4, b1, b4, seg_join (Nat.zero_le _) (Nat.le_of_lt b5) b6, List.drop_zero]
      have HOK : Hid (EntD.Ok wc D2 ∧ checkS D2 = 0) := ⟨ok2, h3⟩
      obtain ⟨ar, mr, cr, e1⟩ := rd_slice ok2.1
      obtain ⟨aq, mq, cq, e2⟩ := rd_slice ok2.2.1
      obtain ⟨av, mv, cv, e3⟩ := rd_slice ok2.2.2
      clear h1 h2 h3 h4 h5 h6 h7 ok2
      obtain ⟨vr, fam, vq, ts, sq, kd, vv, row, qual, val⟩ := D2
      simp only at e1 e2 e3
      subst e1 e2 e3
      have A3 := (Below.refl wc.heap.size wc).alloc (Nat.le_refl _) (.cells (EntD.cells ⟨.slice ar mr cr, fam, .slice aq mq cq, ts, sq, kd, .slice av mv cv, row, qual, val⟩) 35)
      have c3 := pack_ok (HOK.out.1.later A3) HOK.out.2
      have HC3 : Hid (_ ∧ Calls _ _ _ _ _) := ⟨A3, c3⟩
      clear A3 c3 HOK
      simp only [EntD.cells] at HC3 ⊢
      go_wp2_with fail
      refine HC3.out.2.mono ?_
      rintro e wd ⟨ad, md, cd, rfl, ownd, hbd⟩
      have hbcd := HC3.out.1.trans (hbd.mono HC3.out.1.size)
      have BD := BC.trans (hbcd.mono BC.size)
      rw [HBK.out.1] at ownd
      obtain rfl : md = Q2 := by rw [ownd.1, List.length_take]; have := HBK.out.2.2; omega
      have rd := ownd.rd (fun x hx => HN.out.1 x (List.mem_of_mem_take hx)) (by have := HBK.out.2.2; have := HL.out; omega)
      have hmn : mn = ns.length := (rd_lens HN.out).1
      have hcn := (rd_lens HN.out).2.1
      rcases rd_some HN.out with ⟨_, h0, _⟩ | ⟨bn, fn, en⟩
      · have := HBK.out.2; omega
      subst en
      have ra := (HN.out.later BD).upto md (by have := HBK.out.2.2; omega)
      have i1 : (md : Int) ≤ (mn : Int) := by have := HBK.out.2.2; omega
      have i2 : (md : Int) ≤ (cn : Int) := by omega
      have i3 : (0 : Int) ≤ (md : Int) := by omega
      clear HC3 hbd hbcd BC ownd hmn HQ
      go_wp2_with fail
      refine (alike_same rd ra).mono ?_
      rintro e we ⟨rfl, hbe⟩
      go_wp2
      go_ret
      exact ⟨by simp, BD.trans (hbe.mono BD.size)⟩
    · have hE' : ¬ ((E : Int) = 0) := by omega
      have hEb : ((E : Int) != 0) = true := by simp; omega
      have A3 := (Below.refl wc.heap.size wc).alloc (Nat.le_refl _) (.cells #[.slice none 0 0, .int .i64 0, .slice none 0 0, .int .i64 0, .int .i64 0, .int .i64 0, .slice none 0 0] 35)
      go_wp2
      go_ret
      exact ⟨rfl, BC.trans (A3.mono BC.size)⟩

end Go.Proofs.Ytiiencopchpajaa
