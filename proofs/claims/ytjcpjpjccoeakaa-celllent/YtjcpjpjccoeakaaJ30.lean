import Derived.Test.YtjcpjpjccoeakaaJ29
import Derived.Deep.RegionHeld3
import Derived.Test.YtjcpjpjccoeakaaCell62
import Derived.Lib.Hide
namespace Go.Proofs.Ytjcpjpjccoeakaa
open Go.RowKit
set_option linter.unusedVariables false

theorem unpacks_two (L : List Nat) (at_ : Int) (h47 : L.length ≤ 140737488355328) : ∃ K V E1 P2 E2, (∀ (w : World) (a : Option Addr) (m c : Nat), Rd w (.slice a m c) L → Calls Try.prog 28 #[.slice a m c, .int .i64 at_] w fun r w' => ∃ D P E, r = .returned (.tuple #[.agg D.cells, .int .i64 ((P : Nat) : Int), .int .i64 ((E : Nat) : Int)]) ∧ UDet K V E1 P2 E2 D P E ∧ OwnV w' w.heap.size D ∧ Below w.heap.size w w') ∧ (∀ (w : World) (a : Option Addr) (m c : Nat), Rd w (.slice a m c) L → Calls Try.prog 44 #[.slice a m c, .int .i64 at_] w fun r w' => ∃ D P E, r = .returned (.tuple #[.agg D.cells, .int .i64 ((P : Nat) : Int), .int .i64 ((E : Nat) : Int)]) ∧ UDet K V E1 P2 E2 D P E ∧ OwnV w' w.heap.size D ∧ Below w.heap.size w w') := by
  by_cases h : 0 ≤ at_ ∧ at_ ≤ (L.length : Int)
  · obtain ⟨k, rfl⟩ := Int.eq_ofNat_of_zero_le h.1
    obtain ⟨⟨K, P1, E1⟩, q1⟩ : ∃ x, bytesR L k 1048 = x := ⟨_, rfl⟩
    obtain ⟨⟨V, P2, E2⟩, q2⟩ : ∃ x, bytesR L P1 4096 = x := ⟨_, rfl⟩
    exact ⟨K, V, E1, P2, E2, fun w a m c hr => unpack_own hr (by omega) h47 q1 q2, fun w a m c hr => refUnpack_own hr (by omega) h47 q1 q2⟩
  · exact ⟨[], [], 1, 0, 0, fun w a m c hr => unpack_out hr (by omega), fun w a m c hr => refUnpack_out hr (by omega)⟩

set_option maxRecDepth 100000 in
set_option maxHeartbeats 16000000 in
theorem cellUnpacks_walk {v0 : Value} {r : List Nat} {w : World} (hr0 : Rd w v0 r) (at_ : Int) :
    Calls Try.prog 10 #[v0, .int .i64 at_] w fun q w' => q = .returned (.bool true) ∧ Below w.heap.size w w' := by
  obtain ⟨x0, y0, z0, rfl⟩ := rd_slice hr0
  obtain ⟨L, hL⟩ : ∃ L, L = r.take 20000 := ⟨_, rfl⟩
  have hbL : Bys L := by rw [hL]; exact fun x hx => hr0.1 x (List.mem_of_mem_take hx)
  have hlL : L.length ≤ 20000 := by rw [hL]; simp; omega
  obtain ⟨K, V, E1, P2, E2, U1, U2⟩ := unpacks_two L at_ (by omega)
  have CU1 := Lib.hid U1
  have CU2 := Lib.hid U2
  have HL : Hid (L = r.take 20000 ∧ Bys L ∧ L.length ≤ 20000) := ⟨hL, hbL, hlL⟩
  have HR : Hid (Rd w (.slice x0 y0 z0) r) := hr0
  clear hr0 hL hbL hlL U1 U2
  go_enter Try.func10, Try.ntmps10
  go_wp2_with fail
  refine (told_any _).mono ?_
  rintro q w1 ⟨rfl, B1⟩
  go_wp2_with fail
  refine (laid_any (N := 20000) (HR.out.later B1) (by decide)).mono ?_
  rintro q w2 ⟨u, rfl, li2, hb2⟩
  rw [← HL.out.1] at li2
  have B2 := B1.trans (hb2.mono B1.size)
  have HW2 : Hid (w.heap.size ≤ w2.heap.size) := B2.size
  obtain ⟨gi, ci, rfl, hci, hcm, ho⟩ := li2
  have li2 : Laid w2 _ (.slice (some ⟨gi, 0, none⟩) L.length ci) L := ⟨gi, ci, rfl, hci, hcm, ho⟩
  have HGI : Hid (gi < w2.heap.size) := (ho.2.lt gi rfl).2
  clear hb2 ho B1
  obtain ⟨nL, hnL⟩ : ∃ n, n = L.length := ⟨_, rfl⟩
  rw [← hnL] at li2 ⊢
  have HNL : Hid (nL = L.length) := hnL
  have LI2 := Lib.hid li2
  clear hnL hci hcm li2
  go_wp2_with fail
  refine (copied_any (LI2.out.rd HL.out.2.1 (by have := HL.out.2.2; omega)) (by have := HL.out.2.2; omega)).mono ?_
  rintro q w3 ⟨ad, md, cd, rfl, od3, hb3⟩
  have B3 := B2.trans (hb3.mono B2.size)
  have H3 : Hid (Laid w3 _ (.slice (some ⟨gi, 0, none⟩) nL ci) L ∧ Own w3 w2.heap.size (.slice ad md cd) md L) := ⟨LI2.out.later hb3, od3⟩
  have HS3 : Hid (w2.heap.size ≤ w3.heap.size) := hb3.size
  clear hb3 od3 LI2 B2
  go_wp2_with fail
  refine (CU1.out _ _ _ _ (H3.out.1.rd HL.out.2.1 (by have := HL.out.2.2; omega))).mono ?_
  rintro q w4 ⟨X, PX, EX, rfl, dx, ox, hb4⟩
  obtain ⟨ar, cr, er⟩ := own_form ox.row.2
  obtain ⟨aq, cq, eq⟩ := own_form ox.qual.2
  obtain ⟨av, cv, ev⟩ := own_form ox.val.2
  obtain ⟨vr, fam, vq, ts, sq, kd, vv, row, qual, val⟩ := X
  simp only at er eq ev
  subst er eq ev
  have A4 := (Below.refl w4.heap.size w4).alloc (Nat.le_refl _) (.cells (EntD.cells ⟨.slice ar row.length cr, fam, .slice aq qual.length cq, ts, sq, kd, .slice av val.length cv, row, qual, val⟩) 35)
  have hb4' := hb4.trans (A4.mono hb4.size)
  have BX4 := Lib.hid (EBox.new w4 ⟨.slice ar row.length cr, fam, .slice aq qual.length cq, ts, sq, kd, .slice av val.length cv, row, qual, val⟩)
  have B4 := B3.trans (hb4'.mono B3.size)
  have HDX := Lib.hid dx
  have IX : Hid ((∀ g, (Value.slice ar row.length cr).ownBlock = some g ∨ (Value.slice aq qual.length cq).ownBlock = some g ∨ (Value.slice av val.length cv).ownBlock = some g → w3.heap.size ≤ g ∧ g < w4.heap.size) ∧ w3.heap.size ≤ w4.heap.size) := ⟨fun g hg => by
    rcases hg with hg | hg | hg
    · exact ox.row.2.lt g hg
    · exact ox.qual.2.lt g hg
    · exact ox.val.2.lt g hg, hb4.size⟩
  have ID : Hid (∀ g, (Value.slice ad md cd).ownBlock = some g → w2.heap.size ≤ g ∧ g < w3.heap.size) := fun g hg => H3.out.2.2.lt g hg
  have H4 := Lib.hid (And.intro (H3.out.1.later hb4') (And.intro (H3.out.2.later hb4') (ox.later A4)))
  clear dx ox hb4 hb4' B3 H3 A4
  simp only [EntD.cells] at H4 BX4 B4 ⊢
  go_wp2_with fail
  refine (CU2.out _ _ _ _ (H4.out.2.1.rd HL.out.2.1 (by rw [H4.out.2.1.1]; have := HL.out.2.2; omega))).mono ?_
  rintro q w5 ⟨Y, PY, EY, rfl, dy, oy, hb5⟩
  obtain ⟨rfl, rfl, sxy⟩ := HDX.out.same dy
  obtain ⟨ar2, cr2, er⟩ := own_form oy.row.2
  obtain ⟨aq2, cq2, eq⟩ := own_form oy.qual.2
  obtain ⟨av2, cv2, ev⟩ := own_form oy.val.2
  obtain ⟨vr, fam2, vq, ts2, sq2, kd2, vv, row2, qual2, val2⟩ := Y
  simp only at er eq ev
  subst er eq ev
  have A5 := (Below.refl w5.heap.size w5).alloc (Nat.le_refl _) (.cells (EntD.cells ⟨.slice ar2 row2.length cr2, fam2, .slice aq2 qual2.length cq2, ts2, sq2, kd2, .slice av2 val2.length cv2, row2, qual2, val2⟩) 35)
  have hb5' := hb5.trans (A5.mono hb5.size)
  have B5 := B4.trans (hb5'.mono B4.size)
  have HXY := Lib.hid sxy
  have HDY := Lib.hid dy
  have BX5 := BX4.out.later hb5'
  have BY5 := EBox.new w5 ⟨.slice ar2 row2.length cr2, fam2, .slice aq2 qual2.length cq2, ts2, sq2, kd2, .slice av2 val2.length cv2, row2, qual2, val2⟩
  have HS5 : Hid (w4.heap.size + 1 ≤ w5.heap.size) := by unfold Hid; have := hb5.size; simpa using this
  have H5 := Lib.hid (And.intro (H4.out.1.later hb5') (And.intro (H4.out.2.1.later hb5') (And.intro (H4.out.2.2.later hb5') (And.intro (oy.later A5) (And.intro BX5 BY5)))))
  obtain ⟨c0, c1, c2, c3, c4, c5, c6⟩ := BX5.cells7
  obtain ⟨d0, d1, d2, d3, d4, d5, d6⟩ := BY5.cells7
  clear dy oy hb5 hb5' B4 H4 A5 sxy BX5 BY5 BX4
  simp only [EntD.cells] at H5 B5 c0 c1 c2 c3 c4 c5 c6 d0 d1 d2 d3 d4 d5 d6 ⊢
  go_wp2_with fail
  refine (sameEntry_eq H5.out.2.2.1.ok H5.out.2.2.2.1.ok HXY.out).mono ?_
  rintro q w6 ⟨rfl, hb6⟩
  have B6 := B5.trans (hb6.mono B5.size)
  have H6 := Lib.hid (And.intro (H5.out.1.later hb6) (And.intro (H5.out.2.1.later hb6) (And.intro (H5.out.2.2.1.later hb6) (And.intro (H5.out.2.2.2.1.later hb6) (And.intro (H5.out.2.2.2.2.1.later hb6) (H5.out.2.2.2.2.2.later hb6))))))
  have HS6 : Hid (w5.heap.size + 1 ≤ w6.heap.size) := by unfold Hid; have := hb6.size; simpa using this
  clear hb6 B5 H5 c0 c1 c2 c3 c4 c5 c6 d0 d1 d2 d3 d4 d5 d6
  go_wp2_with fail
  refine (intact_any H6.out.1 (H6.out.2.1.rd HL.out.2.1 (by rw [H6.out.2.1.1]; have := HL.out.2.2; omega)) (by have := HL.out.2.2; omega)).mono ?_
  rintro q w7 ⟨rfl, hb7⟩
  have B7 := B6.trans (hb7.mono B6.size)
  have H7 := Lib.hid (And.intro (H6.out.1.later hb7) (And.intro (H6.out.2.1.later hb7) (And.intro (H6.out.2.2.1.later hb7) (And.intro (H6.out.2.2.2.1.later hb7) (And.intro (H6.out.2.2.2.2.1.later hb7) (H6.out.2.2.2.2.2.later hb7))))))
  have HS7 : Hid (w6.heap.size ≤ w7.heap.size) := hb7.size
  clear hb7 B6 H6
  have D0 : Below w7.heap.size w7 w7.drew := (Below.refl _ _).drew
  have HD := Lib.hid (And.intro (H7.out.1.later D0) (And.intro (H7.out.2.1.later D0) (And.intro (H7.out.2.2.1.later D0) (And.intro (H7.out.2.2.2.1.later D0) (And.intro (H7.out.2.2.2.2.1.later D0) (H7.out.2.2.2.2.2.later D0))))))
  have B7D := Lib.hid (B7.trans (D0.mono B7.size))
  have HSS : Hid (w.heap.size ≤ w2.heap.size ∧ w2.heap.size ≤ w3.heap.size ∧ w3.heap.size ≤ w4.heap.size ∧ w4.heap.size + 1 ≤ w5.heap.size ∧ w5.heap.size + 1 ≤ w7.heap.size) := ⟨HW2.out, HS3.out, IX.out.2, HS5.out, by have := HS6.out; have := HS7.out; omega⟩
  have ROW : Hid (Own w7.drew w3.heap.size (.slice ar row.length cr) row.length row) := HD.out.2.2.1.row
  have QUA : Hid (Own w7.drew w3.heap.size (.slice aq qual.length cq) qual.length qual) := HD.out.2.2.1.qual
  have VAL : Hid (Own w7.drew w3.heap.size (.slice av val.length cv) val.length val) := HD.out.2.2.1.val
  have LENS : Hid (row.length ≤ 256 ∧ qual.length ≤ 256 ∧ val.length ≤ 4096) := ⟨HD.out.2.2.1.br.2, HD.out.2.2.1.bq.2, HD.out.2.2.1.bv.2⟩
  have APR : Hid ((∀ g, (Value.slice ar row.length cr).ownBlock = some g → (Value.slice aq qual.length cq).ownBlock ≠ some g) ∧ (∀ g, (Value.slice ar row.length cr).ownBlock = some g → (Value.slice av val.length cv).ownBlock ≠ some g) ∧ (∀ g, (Value.slice aq qual.length cq).ownBlock = some g → (Value.slice av val.length cv).ownBlock ≠ some g)) := ⟨HD.out.2.2.1.arq, HD.out.2.2.1.arv, HD.out.2.2.1.aqv⟩
  have K0 : Hid (w7.drew.cell? ⟨w4.heap.size, 0, none⟩ = some (.slice ar row.length cr) ∧ w7.drew.cell? ⟨w4.heap.size, 2, none⟩ = some (.slice aq qual.length cq) ∧ w7.drew.cell? ⟨w4.heap.size, 6, none⟩ = some (.slice av val.length cv)) := ⟨HD.out.2.2.2.2.1.vr, HD.out.2.2.2.2.1.vq, HD.out.2.2.2.2.1.vv⟩
  have HC1 : Hid (∀ wx, Own wx w3.heap.size (.slice ar row.length cr) row.length row → w3.heap.size ≤ wx.heap.size → Calls Try.prog 38 #[.slice ar row.length cr, .int .u8 17] wx fun e w' => ∃ G, e = .returned (.slice (some ⟨G, 0, none⟩) 4 4) ∧ Marked wx w' (.slice ar row.length cr) G 17 ∧ wx.grownBy w' (Value.slice ar row.length cr).ownBlock) := fun wx h hs => longer_any (mk := 17) h (by decide) (by have := LENS.out.1; omega) hs
  have HC2 : Hid (∀ wx, Own wx w3.heap.size (.slice aq qual.length cq) qual.length qual → w3.heap.size ≤ wx.heap.size → Calls Try.prog 38 #[.slice aq qual.length cq, .int .u8 18] wx fun e w' => ∃ G, e = .returned (.slice (some ⟨G, 0, none⟩) 4 4) ∧ Marked wx w' (.slice aq qual.length cq) G 18 ∧ wx.grownBy w' (Value.slice aq qual.length cq).ownBlock) := fun wx h hs => longer_any (mk := 18) h (by decide) (by have := LENS.out.2.1; omega) hs
  have HC3 : Hid (∀ wx, Own wx w3.heap.size (.slice av val.length cv) val.length val → w3.heap.size ≤ wx.heap.size → Calls Try.prog 38 #[.slice av val.length cv, .int .u8 19] wx fun e w' => ∃ G, e = .returned (.slice (some ⟨G, 0, none⟩) 4 4) ∧ Marked wx w' (.slice av val.length cv) G 19 ∧ wx.grownBy w' (Value.slice av val.length cv).ownBlock) := fun wx h hs => longer_any (mk := 19) h (by decide) (by have := LENS.out.2.2; omega) hs
  have hs70 : Hid (w3.heap.size ≤ w7.drew.heap.size) := by unfold Hid; have := HSS.out; simp; omega
  have EB1 : Hid (∀ wx, w7.drew.grownBy wx (Value.slice ar row.length cr).ownBlock → EBox wx w4.heap.size ⟨.slice ar row.length cr, fam, .slice aq qual.length cq, ts, sq, kd, .slice av val.length cv, row, qual, val⟩ ∧ Own wx w3.heap.size (.slice aq qual.length cq) qual.length qual ∧ Own wx w3.heap.size (.slice av val.length cv) val.length val ∧ (wx.cell? ⟨w4.heap.size, 0, none⟩ = some (.slice ar row.length cr) ∧ wx.cell? ⟨w4.heap.size, 2, none⟩ = some (.slice aq qual.length cq) ∧ wx.cell? ⟨w4.heap.size, 6, none⟩ = some (.slice av val.length cv)) ∧ w3.heap.size ≤ wx.heap.size) := fun wx h => by
    have e := HD.out.2.2.2.2.1.far h (fun g hg => ebox_own HD.out.2.2.2.2.1 ROW.out hg)
    exact ⟨e, QUA.out.far h (fun g hg => APR.out.1 g hg), VAL.out.far h (fun g hg => APR.out.2.1 g hg), ⟨e.vr, e.vq, e.vv⟩, Nat.le_trans hs70.out h.size⟩
  have EB2 : Hid (∀ wx wy, EBox wx w4.heap.size ⟨.slice ar row.length cr, fam, .slice aq qual.length cq, ts, sq, kd, .slice av val.length cv, row, qual, val⟩ → Own wx w3.heap.size (.slice aq qual.length cq) qual.length qual → Own wx w3.heap.size (.slice av val.length cv) val.length val → w3.heap.size ≤ wx.heap.size → wx.grownBy wy (Value.slice aq qual.length cq).ownBlock → EBox wy w4.heap.size ⟨.slice ar row.length cr, fam, .slice aq qual.length cq, ts, sq, kd, .slice av val.length cv, row, qual, val⟩ ∧ Own wy w3.heap.size (.slice av val.length cv) val.length val ∧ (wy.cell? ⟨w4.heap.size, 0, none⟩ = some (.slice ar row.length cr) ∧ wy.cell? ⟨w4.heap.size, 2, none⟩ = some (.slice aq qual.length cq) ∧ wy.cell? ⟨w4.heap.size, 6, none⟩ = some (.slice av val.length cv)) ∧ w3.heap.size ≤ wy.heap.size) := fun wx wy e q v hs h => by
    have e2 := e.far h (fun g hg => ebox_own e q hg)
    exact ⟨e2, v.far h (fun g hg => APR.out.2.2 g hg), ⟨e2.vr, e2.vq, e2.vv⟩, Nat.le_trans hs h.size⟩
  have EB3 : Hid (∀ wx wy, EBox wx w4.heap.size ⟨.slice ar row.length cr, fam, .slice aq qual.length cq, ts, sq, kd, .slice av val.length cv, row, qual, val⟩ → Own wx w3.heap.size (.slice av val.length cv) val.length val → wx.grownBy wy (Value.slice av val.length cv).ownBlock → (wy.cell? ⟨w4.heap.size, 0, none⟩ = some (.slice ar row.length cr) ∧ wy.cell? ⟨w4.heap.size, 2, none⟩ = some (.slice aq qual.length cq) ∧ wy.cell? ⟨w4.heap.size, 6, none⟩ = some (.slice av val.length cv))) := fun wx wy e v h => by
    have e2 := e.far h (fun g hg => ebox_own e v hg)
    exact ⟨e2.vr, e2.vq, e2.vv⟩
  clear D0 H7 B7
  go_wp2_with fail
  go_region_held3 (fun wx => wx.cell? ⟨w4.heap.size, 0, none⟩ = some (.slice ar row.length cr) ∧ wx.cell? ⟨w4.heap.size, 2, none⟩ = some (.slice aq qual.length cq) ∧ wx.cell? ⟨w4.heap.size, 6, none⟩ = some (.slice av val.length cv)) (first | exact K0.out | exact E8.out.2.2.2.1 | exact E9.out.2.2.1 | exact EA.out)
    (first
      | (go_at_call 38; refine (HC3.out _ HQ9.out E9.out.2.2.2).mono ?_; rintro qA wA ⟨G3, rfl, mk3, gr3⟩; have EA := Lib.hid (EB3.out _ _ E9.out.1 HQ9.out gr3); have HG3 := Lib.hid gr3; have HM3 := Lib.hid mk3; clear gr3 mk3)
      | (go_at_call 38; refine (HC2.out _ HQ8.out E8.out.2.2.2.2).mono ?_; rintro q9 w9 ⟨G2, rfl, mk2, gr2⟩; have E9 := Lib.hid (EB2.out _ _ E8.out.1 E8.out.2.1 E8.out.2.2.1 E8.out.2.2.2.2 gr2); have HG2 := Lib.hid gr2; have HM2 := Lib.hid mk2; have HQ9 := Lib.hid (EB2.out _ _ E8.out.1 E8.out.2.1 E8.out.2.2.1 E8.out.2.2.2.2 gr2).2.1; have HO8 := Lib.hid HQ8.out; clear gr2 mk2 HQ8)
      | (go_at_call 38; refine (HC1.out _ ROW.out hs70.out).mono ?_; rintro q8 w8 ⟨G1, rfl, mk1, gr1⟩; have E8 := Lib.hid (EB1.out _ gr1); have HS8 : Hid (w7.heap.size ≤ w8.heap.size) := (by unfold Hid; have := gr1.size; simpa using this); have HG1 := Lib.hid gr1; have HM1 := Lib.hid mk1; have HQ8 := Lib.hid (EB1.out _ gr1).2.1; clear gr1 mk1))
  have R1 : Hid (∀ g, (Value.slice ar row.length cr).ownBlock = some g → w3.heap.size ≤ g ∧ g < w4.heap.size) := fun g hg => IX.out.1 g (.inl hg)
  have R2 : Hid (∀ g, (Value.slice aq qual.length cq).ownBlock = some g → w3.heap.size ≤ g ∧ g < w4.heap.size) := fun g hg => IX.out.1 g (.inr (.inl hg))
  have R3 : Hid (∀ g, (Value.slice av val.length cv).ownBlock = some g → w3.heap.size ≤ g ∧ g < w4.heap.size) := fun g hg => IX.out.1 g (.inr (.inr hg))
  have S8 : Hid (w8.heap.size ≤ w9.heap.size ∧ w9.heap.size ≤ wA.heap.size) := ⟨HG2.out.size, HG3.out.size⟩
  have LA := ((HD.out.1.far HG1.out (fun g hg h => by have := R1.out g hg; have := HGI.out; have := HSS.out; simp [Value.ownBlock] at h; omega)).far HG2.out (fun g hg h => by have := R2.out g hg; have := HGI.out; have := HSS.out; simp [Value.ownBlock] at h; omega)).far HG3.out (fun g hg h => by have := R3.out g hg; have := HGI.out; have := HSS.out; simp [Value.ownBlock] at h; omega)
  have OA := ((HD.out.2.1.far HG1.out (fun g hg h => by have := R1.out g hg; have := ID.out g h; omega)).far HG2.out (fun g hg h => by have := R2.out g hg; have := ID.out g h; omega)).far HG3.out (fun g hg h => by have := R3.out g hg; have := ID.out g h; omega)
  have YA := ((HD.out.2.2.2.1.far HG1.out (fun g hg => by have := R1.out g hg; simp; omega)).far HG2.out (fun g hg => by have := R2.out g hg; simp; omega)).far HG3.out (fun g hg => by have := R3.out g hg; simp; omega)
  have XA := E9.out.1.far HG3.out (fun g hg => ebox_own E9.out.1 HQ9.out hg)
  have V8 := HD.out.2.2.2.2.2.far HG1.out (fun g hg => ebox_own HD.out.2.2.2.2.2 ROW.out hg)
  have V9 := V8.far HG2.out (fun g hg => ebox_own V8 E8.out.2.1 hg)
  have VA := V9.far HG3.out (fun g hg => ebox_own V9 HQ9.out hg)
  have M1 := (HM1.out.still HG2.out (fun g hg => ⟨by have := R2.out g hg; have := HSS.out; simp; omega, fun h => APR.out.1 g h hg⟩)).still HG3.out (fun g hg => ⟨by have := R3.out g hg; have := HSS.out; simp; omega, fun h => APR.out.2.1 g h hg⟩)
  have M2 := HM2.out.still HG3.out (fun g hg => ⟨by have := R3.out g hg; have := HSS.out; have := HS8.out; omega, fun h => APR.out.2.2 g h hg⟩)
  have M3 := HM3.out
  have B8 := below_grows B7D.out ROW.out (by have := HSS.out; omega) HG1.out
  have B9 := below_grows B8 E8.out.2.1 (by have := HSS.out; omega) HG2.out
  have BA := below_grows B9 HQ9.out (by have := HSS.out; omega) HG3.out
  have HA := Lib.hid (And.intro LA (And.intro OA (And.intro YA (And.intro XA (And.intro VA (And.intro M1 (And.intro M2 M3)))))))
  have HBA := Lib.hid BA
  clear LA OA YA XA V8 V9 VA M1 M2 M3 B8 B9 BA HD K0 HG1 HG2 HG3 HM1 HM2 HM3 HQ9 B7D E8 E9 EA EB1 EB2 EB3 HC1 HC2 HC3 ROW QUA VAL
  go_wp2_with fail
  refine (CU1.out _ _ _ _ (HA.out.1.rd HL.out.2.1 (by have := HL.out.2.2; omega))).mono ?_
  rintro q w10 ⟨Z, PZ, EZ, rfl, dz, oz, hb10⟩
  obtain ⟨rfl, rfl, szy⟩ := HDY.out.same dz
  obtain ⟨ar3, cr3, er⟩ := own_form oz.row.2
  obtain ⟨aq3, cq3, eq⟩ := own_form oz.qual.2
  obtain ⟨av3, cv3, ev⟩ := own_form oz.val.2
  obtain ⟨vr, fam3, vq, ts3, sq3, kd3, vv, row3, qual3, val3⟩ := Z
  simp only at er eq ev
  subst er eq ev
  have B10 := HBA.out.trans (hb10.mono HBA.out.size)
  have XB := HA.out.2.2.2.1.later hb10
  have YB := HA.out.2.2.2.2.1.later hb10
  have n1 : ¬ (w5.heap.size = w4.heap.size) := by have := HSS.out; omega
  have n2 : ¬ (w4.heap.size = w5.heap.size) := by have := HSS.out; omega
  have fa := filled_apart w10 w4.heap.size ⟨.slice ar3 row3.length cr3, fam3, .slice aq3 qual3.length cq3, ts3, sq3, kd3, .slice av3 val3.length cv3, row3, qual3, val3⟩
  have fg := filled_grown w10 w4.heap.size ⟨.slice ar3 row3.length cr3, fam3, .slice aq3 qual3.length cq3, ts3, sq3, kd3, .slice av3 val3.length cv3, row3, qual3, val3⟩
  have F1 := (HA.out.2.2.2.2.2.1.later hb10).far fg (fun g hg => by
    cases hg
    exact ⟨by have := HSS.out; simp; omega, fun h => by have := R1.out _ h; omega⟩)
  have F2 := (HA.out.2.2.2.2.2.2.1.later hb10).far fg (fun g hg => by
    cases hg
    exact ⟨by have := HSS.out; have := HS8.out; omega, fun h => by have := R2.out _ h; omega⟩)
  have F3 := (HA.out.2.2.2.2.2.2.2.later hb10).far fg (fun g hg => by
    cases hg
    exact ⟨by have := HSS.out; have := HS8.out; have := S8.out; omega, fun h => by have := R3.out _ h; omega⟩)
  have HF := Lib.hid (And.intro ((HA.out.1.later hb10).fillB (E := ⟨.slice ar3 row3.length cr3, fam3, .slice aq3 qual3.length cq3, ts3, sq3, kd3, .slice av3 val3.length cv3, row3, qual3, val3⟩) XB) (And.intro ((HA.out.2.1.later hb10).apartE XB fa) (And.intro ((HA.out.2.2.1.later hb10).fill (g := w4.heap.size) (E := ⟨.slice ar3 row3.length cr3, fam3, .slice aq3 qual3.length cq3, ts3, sq3, kd3, .slice av3 val3.length cv3, row3, qual3, val3⟩) (by simp)) (And.intro (oz.fill (g := w4.heap.size) (E := ⟨.slice ar3 row3.length cr3, fam3, .slice aq3 qual3.length cq3, ts3, sq3, kd3, .slice av3 val3.length cv3, row3, qual3, val3⟩) (by have := HSS.out; have := HS8.out; have := S8.out; omega)) (And.intro F1 (And.intro F2 (And.intro F3 (B10.trans (fa.below (by have := HSS.out; omega) B10.size)))))))))
  have HZY := Lib.hid szy.symm
  obtain ⟨x0', x1, x2, x3, x4, x5, x6⟩ := XB.cells7
  obtain ⟨xf0, xf1, xf2, xf3, xf4, xf5, xf6⟩ := XB.fz7
  obtain ⟨d0, d1, d2, d3, d4, d5, d6⟩ := YB.cells7
  simp only at x0' x1 x2 x3 x4 x5 x6 d0 d1 d2 d3 d4 d5 d6
  clear dz oz hb10 B10 XB YB fa fg HA szy F1 F2 F3
  simp only [EntD.cells]
  go_wp2_with fail
  refine (sameEntry_eq (w := filled w10 w4.heap.size ⟨.slice ar3 row3.length cr3, fam3, .slice aq3 qual3.length cq3, ts3, sq3, kd3, .slice av3 val3.length cv3, row3, qual3, val3⟩) HF.out.2.2.2.1.ok HF.out.2.2.1.ok HZY.out).mono ?_
  rintro q w11 ⟨rfl, hb11⟩
  have H11 := Lib.hid (And.intro (HF.out.1.later hb11) (And.intro (HF.out.2.1.later hb11) (And.intro (HF.out.2.2.2.2.1.later hb11) (And.intro (HF.out.2.2.2.2.2.1.later hb11) (And.intro (HF.out.2.2.2.2.2.2.1.later hb11) (HF.out.2.2.2.2.2.2.2.trans (hb11.mono HF.out.2.2.2.2.2.2.2.size)))))))
  clear hb11 HF x0' x1 x2 x3 x4 x5 x6 xf0 xf1 xf2 xf3 xf4 xf5 xf6 d0 d1 d2 d3 d4 d5 d6
  go_wp2_with fail
  refine (intact_any H11.out.1 (H11.out.2.1.rd HL.out.2.1 (by rw [H11.out.2.1.1]; have := HL.out.2.2; omega)) (by have := HL.out.2.2; omega)).mono ?_
  rintro q w12 ⟨rfl, hb12⟩
  have H12 := Lib.hid (And.intro (H11.out.2.2.1.later hb12) (And.intro (H11.out.2.2.2.1.later hb12) (And.intro (H11.out.2.2.2.2.1.later hb12) (H11.out.2.2.2.2.2.trans (hb12.mono H11.out.2.2.2.2.2.size)))))
  clear hb12 H11
  go_wp2_with fail
  refine (full_any H12.out.1).mono ?_
  rintro q w13 ⟨rfl, hw13⟩
  subst hw13
  go_wp2_with fail
  refine (full_any H12.out.2.1).mono ?_
  rintro q w14 ⟨rfl, hw14⟩
  subst hw14
  go_wp2_with fail
  refine (full_any H12.out.2.2.1).mono ?_
  rintro q w15 ⟨rfl, hw15⟩
  subst hw15
  go_wp2
  go_ret
  exact ⟨rfl, H12.out.2.2.2⟩

end Go.Proofs.Ytjcpjpjccoeakaa

namespace Go.Proofs.Ytjcpjpjccoeakaa
open Go.RowKit
set_option linter.unusedVariables false

/-- The three byte strings lie apart. -/
def ApE (D : EntD) : Prop := (∀ g, D.vr.ownBlock = some g → D.vq.ownBlock ≠ some g) ∧ (∀ g, D.vr.ownBlock = some g → D.vv.ownBlock ≠ some g) ∧ (∀ g, D.vq.ownBlock = some g → D.vv.ownBlock ≠ some g)
theorem Laid.own_lt {w : World} {B : Nat} {u : Value} {bs : List Nat} (h : Laid w B u bs) : ∀ g, u.ownBlock = some g → B ≤ g ∧ g < w.heap.size := by
  obtain ⟨g2, c, rfl, h2, h3, h4⟩ := h
  intro g hg
  exact h4.2.lt g hg
/-- Where its byte strings lie: from lo on, below hi. -/
def Within (D : EntD) (lo hi : Nat) : Prop := ∀ g, D.vr.ownBlock = some g ∨ D.vq.ownBlock = some g ∨ D.vv.ownBlock = some g → lo ≤ g ∧ g < hi
theorem LaidE.within {w : World} {B : Nat} {D : EntD} (h : LaidE w B D) : Within D B w.heap.size := by
  intro g hg
  rcases hg with hg | hg | hg
  · exact h.1.own_lt g hg
  · exact h.2.1.own_lt g hg
  · exact h.2.2.own_lt g hg

set_option maxRecDepth 100000 in
set_option maxHeartbeats 4000000 in
theorem entry_ap {e : EntD} {w : World} (hok : EntD.Ok w e) :
    Calls Try.prog 19 #[.agg e.cells] w fun r w' => ∃ D : EntD, r = .returned (.agg D.cells) ∧ EntD.Same D e.cut ∧ LaidE w' w.heap.size D ∧ Below w.heap.size w w' ∧ ApE D := by
  have A0 := (Below.refl w.heap.size w).alloc (Nat.le_refl _) (.cells e.cells 35)
  have A1 := A0.alloc A0.size (.cells zeroD.cells 35)
  have bx1 : Hid (EBox ((w.alloc (.cells e.cells 35)).alloc (.cells zeroD.cells 35)) w.heap.size e) := (EBox.new w e).later ((Below.refl _ _).alloc (Nat.le_refl _) _)
  have bg0 := EBox.new (w.alloc (.cells e.cells 35)) zeroD
  rw [World.size_alloc] at bg0
  have bg1 := Lib.hid bg0
  have HK : Hid (EntD.Ok w e) := hok
  clear hok bg0 A0
  obtain ⟨vr, fam, vq, ts, seq, kind, vv, row, qual, val⟩ := e
  simp only [EntD.cells, zeroD] at *
  go_enter Try.func19, Try.ntmps19
  go_wp2_with fail
  refine (laid_any (N := 5000) (HK.out.1.later A1) (by decide)).mono ?_
  rintro q w1 ⟨u1, rfl, l1, hb1⟩
  obtain ⟨a1, n1, k1, rfl⟩ := l1.form
  have hs1 : w.heap.size + 2 ≤ w1.heap.size := by have := hb1.size; simpa using this
  have B1 := (A1.trans (hb1.mono A1.size)).setCell (p := ⟨w.heap.size, 0, none⟩) (Nat.le_refl _) (.slice a1 n1 k1)
  have bx2 := bx1.out.later hb1
  have c0 := bx2.vr
  have f0 := bx2.fz 0
  have bx3 := bx2.set0 (.slice a1 n1 k1) (row.take 5000)
  have x2 := bx3.vq
  simp only at x2 c0
  have L1 : Hid (Laid (w1.setCell ⟨w.heap.size, 0, none⟩ (.slice a1 n1 k1)) (w.heap.size + 2) (.slice a1 n1 k1) (row.take 5000)) := (by have := l1; simp at this; exact this : Laid w1 (w.heap.size + 2) (.slice a1 n1 k1) (row.take 5000)).put (by omega)
  have HX3 := Lib.hid bx3
  have GA : Hid (∀ g, (Value.slice a1 n1 k1).ownBlock = some g → g < w1.heap.size) := fun g hg => (l1.own_lt g hg).2
  have bg2 := Lib.hid ((bg1.out.later hb1).apart (apart_set w1 w.heap.size 0 (.slice a1 n1 k1)) (by omega))
  clear l1 hb1 A1 bx1 bx2 bx3 bg1
  go_wp2_with fail
  refine (laid_any (N := 5000) (HK.out.2.1.later B1) (by decide)).mono ?_
  rintro q w2 ⟨u2, rfl, l2, hb2⟩
  obtain ⟨a2, n2, k2, rfl⟩ := l2.form
  have hs2 : w.heap.size + 2 ≤ w2.heap.size := Nat.le_trans (by simpa using hs1) hb2.size
  have hsz2 : Hid (w1.heap.size ≤ w2.heap.size) := by unfold Hid; have := hb2.size; simpa using this
  have B2 := (B1.trans (hb2.mono B1.size)).setCell (p := ⟨w.heap.size, 2, none⟩) (Nat.le_refl _) (.slice a2 n2 k2)
  have bx4 := HX3.out.later hb2
  have c2 := bx4.vq
  have f2 := bx4.fz 2
  have bx5 := bx4.set2 (.slice a2 n2 k2) (qual.take 5000)
  have x6 := bx5.vv
  simp only at x6 c2
  have L2 : Hid (Laid (w2.setCell ⟨w.heap.size, 2, none⟩ (.slice a2 n2 k2)) (w.heap.size + 2) (.slice a1 n1 k1) (row.take 5000) ∧ Laid (w2.setCell ⟨w.heap.size, 2, none⟩ (.slice a2 n2 k2)) (w.heap.size + 2) (.slice a2 n2 k2) (qual.take 5000)) := ⟨(L1.out.later hb2).put (by omega), (l2.mono (by simpa using hs1)).put (by omega)⟩
  have HX5 := Lib.hid bx5
  have GB : Hid (∀ g, (Value.slice a2 n2 k2).ownBlock = some g → w1.heap.size ≤ g ∧ g < w2.heap.size) := fun g hg => by have := l2.own_lt g hg; simpa using this
  have bg3 := Lib.hid ((bg2.out.later hb2).apart (apart_set w2 w.heap.size 2 (.slice a2 n2 k2)) (by omega))
  clear l2 hb2 bx4 bx5 HX3 L1 c0 f0 x2 B1 bg2
  go_wp2_with fail
  refine (laid_any (N := 5000) (HK.out.2.2.later B2) (by decide)).mono ?_
  rintro q w3 ⟨u3, rfl, l3, hb3⟩
  obtain ⟨a3, n3, k3, rfl⟩ := l3.form
  have B3 := (B2.trans (hb3.mono B2.size)).setCell (p := ⟨w.heap.size, 6, none⟩) (Nat.le_refl _) (.slice a3 n3 k3)
  have bx6 := HX5.out.later hb3
  have bx7 := bx6.set6 (.slice a3 n3 k3) (val.take 5000)
  have L3 : Laid (w3.setCell ⟨w.heap.size, 6, none⟩ (.slice a3 n3 k3)) (w.heap.size + 2) (.slice a1 n1 k1) (row.take 5000) ∧ Laid (w3.setCell ⟨w.heap.size, 6, none⟩ (.slice a3 n3 k3)) (w.heap.size + 2) (.slice a2 n2 k2) (qual.take 5000) ∧ Laid (w3.setCell ⟨w.heap.size, 6, none⟩ (.slice a3 n3 k3)) (w.heap.size + 2) (.slice a3 n3 k3) (val.take 5000) := ⟨(L2.out.1.later hb3).put (by omega), (L2.out.2.later hb3).put (by omega), (l3.mono (by simpa using hs2)).put (by omega)⟩
  have bg4 := (bg3.out.later hb3).apart (apart_set w3 w.heap.size 6 (.slice a3 n3 k3)) (by omega)
  have GC : Hid (∀ g, (Value.slice a3 n3 k3).ownBlock = some g → w2.heap.size ≤ g) := fun g hg => by have := (l3.own_lt g hg).1; simpa using this
  have GS : Hid (w1.heap.size ≤ w2.heap.size) := by unfold Hid; have := hsz2.out; exact this
  obtain ⟨D, hD⟩ : ∃ D : EntD, D = ⟨(.slice a1 n1 k1), fam, (.slice a2 n2 k2), ts, seq, kind, (.slice a3 n3 k3), row.take 5000, qual.take 5000, val.take 5000⟩ := ⟨_, rfl⟩
  have fb := filled_box bg4 D
  have bw := B3.trans ((filled_apart (w3.setCell ⟨w.heap.size, 6, none⟩ (.slice a3 n3 k3)) (w.heap.size + 1) D).below (by omega) B3.size)
  have L4 : Laid (filled (w3.setCell ⟨w.heap.size, 6, none⟩ (.slice a3 n3 k3)) (w.heap.size + 1) D) (w.heap.size + 2) (.slice a1 n1 k1) (row.take 5000) ∧ Laid (filled (w3.setCell ⟨w.heap.size, 6, none⟩ (.slice a3 n3 k3)) (w.heap.size + 1) D) (w.heap.size + 2) (.slice a2 n2 k2) (qual.take 5000) ∧ Laid (filled (w3.setCell ⟨w.heap.size, 6, none⟩ (.slice a3 n3 k3)) (w.heap.size + 1) D) (w.heap.size + 2) (.slice a3 n3 k3) (val.take 5000) := ⟨L3.1.fill (by omega), L3.2.1.fill (by omega), L3.2.2.fill (by omega)⟩
  rw [hD] at fb bw L4
  have HDN : Hid (_ ∧ _ ∧ _) := ⟨fb, bw, L4⟩
  obtain ⟨z0, z1, z2, z3, z4, z5, z6⟩ := bx6.cells7
  obtain ⟨zf0, zf1, zf2, zf3, zf4, zf5, zf6⟩ := bx6.fz7
  obtain ⟨y0, y1, y2, y3, y4, y5, y6⟩ := bx7.cells7
  obtain ⟨g0, g1, g2, g3, g4, g5, g6⟩ := bg4.cells7
  obtain ⟨gf0, gf1, gf2, gf3, gf4, gf5, gf6⟩ := bg4.fz7
  simp only at y0 y1 y2 y3 y4 y5 y6 g0 g1 g2 g3 g4 g5 g6 z6
  clear l3 hb3 bx6 bx7 HX5 L2 L3 L4 c2 f2 x6 B2 B3 fb bw bg4 bg3 hD z0 z1 z2 z3 z4 z5
  simp only [filled] at HDN
  go_wp2
  obtain ⟨fb, bw, L4⟩ := HDN.out
  clear HDN
  generalize ((((((((w3.setCell ⟨w.heap.size, 6, none⟩ (.slice a3 n3 k3)).setCell ⟨w.heap.size + 1, 0, none⟩ (.slice a1 n1 k1)).setCell ⟨w.heap.size + 1, 1, none⟩ (.int .i64 fam)).setCell ⟨w.heap.size + 1, 2, none⟩ (.slice a2 n2 k2)).setCell ⟨w.heap.size + 1, 3, none⟩ (.int .i64 ts)).setCell ⟨w.heap.size + 1, 4, none⟩ (.int .i64 seq)).setCell ⟨w.heap.size + 1, 5, none⟩ (.int .i64 kind)).setCell ⟨w.heap.size + 1, 6, none⟩ (.slice a3 n3 k3)) = wz at fb bw L4 ⊢
  obtain ⟨t0, t1, t2, t3, t4, t5, t6⟩ := fb.cells7
  simp only at t0 t1 t2 t3 t4 t5 t6
  (try simp only [Exit.inBlock, Exit.then])
  refine bodyPost_ret (v := .agg #[(.slice a1 n1 k1), .int .i64 fam, (.slice a2 n2 k2), .int .i64 ts, .int .i64 seq, .int .i64 kind, (.slice a3 n3 k3)]) ?hres rfl ?_
  case hres => simp [results, Try.results19, go_sem, t0, t1, t2, t3, t4, t5, t6]
  exact ⟨⟨(.slice a1 n1 k1), fam, (.slice a2 n2 k2), ts, seq, kind, (.slice a3 n3 k3), row.take 5000, qual.take 5000, val.take 5000⟩, rfl, ⟨rfl, rfl, rfl, rfl, rfl, rfl, rfl⟩, LaidE.mono ⟨L4.1, L4.2.1, L4.2.2⟩ (by omega), bw, ⟨fun g hg h => by have h1 := GA.out g hg; have h2 := (GB.out g h).1; omega, fun g hg h => by have h1 := GA.out g hg; have h2 := GC.out g h; have := GS.out; omega, fun g hg h => by have h1 := (GB.out g hg).2; have h2 := GC.out g h; omega⟩⟩


end Go.Proofs.Ytjcpjpjccoeakaa

namespace Go.Proofs.Ytjcpjpjccoeakaa
open Go.RowKit
set_option linter.unusedVariables false

/-- A row of byte strings that is owned. -/
def RowS (w : World) (B : Nat) (v : Value) (n : Nat) (vs : List Value) : Prop := n = vs.length ∧ (∀ u ∈ vs, u.oneCell' = true) ∧ w.ownsRow B 33 1 v n vs
theorem RowS.later {w w' : World} {B n : Nat} {v : Value} {vs : List Value} (h : RowS w B v n vs) (hb : Below w.heap.size w w') : RowS w' B v n vs := by
  refine ⟨h.1, h.2.1, h.2.2.1, ?_⟩
  rcases h.2.2.2 with h2 | ⟨g, cap, cur, h3, h4, h5, h6⟩
  · exact .inl h2
  · exact .inr ⟨g, cap, cur, h3, h4, by rw [hb.block g (Array.getElem?_eq_some_iff.1 h5).1]; exact h5, h6⟩
theorem rows_form {w : World} {B n : Nat} {v : Value} {xs : List Value} (h : w.ownsRow B 33 1 v n xs) : ∃ a c, v = .slice a n c := by
  rcases h.2 with ⟨rfl, rfl⟩ | ⟨g, cap, cur, rfl, _⟩
  · exact ⟨_, _, rfl⟩
  · exact ⟨_, _, rfl⟩
theorem info_parts1 : (Try.prog.info? 33).map (fun i => (i.zero, i.size, i.bytes)) = some (some (.slice none 0 0), 1, 24) := by kernel_rfl
/-- append of one byte string to a row that is owned: all that is wanted of it. -/
theorem append_row {w : World} {B n : Nat} {v u : Value} {vs : List Value} (ty : TypeId) (hown : RowS w B v n vs) (hu : u.oneCell' = true) (hbytes : n + 1 ≤ 1000000) (hB : B ≤ w.heap.size) :
    ∃ v' w', (Builtin.append_ #[56, 56] ty #[v, .slice (some ⟨w.heap.size, 0, none⟩) 1 1]).run Try.prog (w.alloc (.cells #[u] 33)) = .ok v' w' ∧ RowS w' B v' (n + 1) (vs ++ [u]) ∧ w.grownBy w' v.ownBlock ∧ (v'.ownBlock = v.ownBlock ∨ ∀ g, v'.ownBlock = some g → w.heap.size ≤ g) := by
  obtain ⟨i0, hi, hz0, hz1, hz2⟩ := info_parts info_parts1
  obtain ⟨W, hW⟩ : ∃ W, W = w.alloc (.cells #[u] 33) := ⟨_, rfl⟩
  have hsW : W.heap.size = w.heap.size + 1 := by rw [hW]; simp
  have hnews : ∀ j x, ([u] : List Value)[j]? = some x → W.cell? ((⟨w.heap.size, 0, none⟩ : Addr).add j) = some x := by
    intro j x hj
    have hh : W.heap[w.heap.size]? = some (.cells #[u] 33) := by rw [hW]; exact heap_new w _
    cases j with
    | zero =>
      simp at hj
      subst hj
      simp [World.cell?, Addr.add, hh]
    | succ j => simp at hj
  have hownW : W.ownsRow B 33 1 v n vs := by rw [hW]; exact hown.2.2.alloc _
  have h1 : ∀ x ∈ ([u] : List Value), x.oneCell' = true := by intro x hx; simp at hx; subst hx; exact hu
  obtain ⟨v', w', hr, h2, h3, _⟩ := run_append_own (P := Try.prog) W B 56 ty 33 i0 (.slice none 0 0) 1 24 und_parts hi hz0 hz1 hz2 rfl (by decide) v n vs hownW ⟨w.heap.size, 0, none⟩ 1 1 [u] (by simp) hnews h1 (by unfold maxLen; omega) (by omega) (by omega)
  have o2 : RowS w' B v' (n + 1) (vs ++ [u]) := ⟨by rw [hown.1]; simp, fun x hx => by rcases List.mem_append.1 hx with h | h; exact hown.2.1 x h; exact h1 x h, h2⟩
  have g2 : w.grownBy w' v.ownBlock := grown_trans (by rw [hW]; exact grown_alloc w _ _) h3 (.inl rfl)
  rw [hW] at hr
  refine ⟨v', w', hr, o2, g2, ?_⟩
  rw [← hW] at hr
  rcases hownW.2 with ⟨rfl, h0⟩ | ⟨g, cap, cur, rfl, hg1, hg2, hg3, hg4, hg5, hg6⟩
  · subst h0
    have hr2 := run_append_nil (P := Try.prog) W 56 ty 33 i0 (.slice none 0 0) und_parts hi hz0 ⟨w.heap.size, 0, none⟩ 1 1 [u] (by rw [hz1]; simp) hnews (by decide) (by decide) (by rw [hz2]; decide)
    rw [hr] at hr2
    injection hr2 with e1 e2
    subst e1
    refine .inr fun g hg => ?_
    simp [Value.ownBlock] at hg
    omega
  · by_cases hroom : n + 1 ≤ cap
    · obtain ⟨w2, hr2, k2, _⟩ := run_append_own_spare (P := Try.prog) W B 56 ty 33 i0 1 und_parts hi hz1 g n cap vs hownW ⟨w.heap.size, 0, none⟩ 1 1 [u] (by simp) hnews h1 hroom
      rw [hr] at hr2
      injection hr2 with e1 e2
      subst e1
      exact .inl rfl
    · have holds : ∀ j x, vs[j]? = some x → W.cell? ((⟨g, 0, none⟩ : Addr).add j) = some x := hownW.cells (g := g) rfl
      have hr2 := run_append_grow (P := Try.prog) W 56 ty 33 i0 (.slice none 0 0) und_parts hi hz0 ⟨g, 0, none⟩ n cap vs (by rw [hz1, ← hown.1]; omega) holds ⟨w.heap.size, 0, none⟩ 1 1 [u] (by rw [hz1]; simp) hnews (by omega) (by omega) (by rw [hz2]; exact growslice_fits (by omega) (by omega))
      rw [hr] at hr2
      injection hr2 with e1 e2
      subst e1
      refine .inr fun x hx => ?_
      simp [Value.ownBlock] at hx
      omega
theorem wpList_append_one {w : World} {ops : Array Oper} {rest : List Oper} {o : Oper} {a : Act} {Q : Exit → Act → World → Prop} (hgd : o.guard = none) (s x : Operand)
    (ho : o.op = .call { callee := .builtin .append, args := #[s, x], argTypes := #[56, 56] })
    (B : Nat) (a0 : Option Addr) (m0 c0 : Nat) (vs : List Value) (hs : a.eval s = .slice a0 m0 c0) (hown : RowS w B (.slice a0 m0 c0) m0 vs)
    (u : Value) (hu : u.oneCell' = true) (hx : a.eval x = .slice (some ⟨w.heap.size, 0, none⟩) 1 1)
    (hbytes : m0 + 1 ≤ 1000000) (hB : B ≤ w.heap.size)
    (h : ∀ a' c' w', RowS w' B (.slice a' (m0 + 1) c') (m0 + 1) (vs ++ [u]) → w.grownBy w' (Value.slice a0 m0 c0).ownBlock → ((Value.slice a' (m0 + 1) c').ownBlock = (Value.slice a0 m0 c0).ownBlock ∨ ∀ g, (Value.slice a' (m0 + 1) c').ownBlock = some g → w.heap.size ≤ g) → wpList Try.prog ops Q rest (a.put o.dst (.slice a' (m0 + 1) c')) w') : wpList Try.prog ops Q (o :: rest) a (w.alloc (.cells #[u] 33)) := by
  obtain ⟨v', w', hr, h1, h2, h3⟩ := append_row o.type hown hu hbytes hB
  obtain ⟨a', c', rfl⟩ := rows_form h1.2.2
  refine wpList_plain hgd fun K hK => ?_
  unfold Oper.wp execOp
  simp only [ho, resolve, invoke, builtin, Sem.run_bind, Sem.run_pure, Result.andThen_ok, List.map_toArray, List.map_cons, List.map_nil, hs, hx, hr]
  exact hK _ _ (h a' c' w' h1 h2 h3)
end Go.Proofs.Ytjcpjpjccoeakaa
