import Derived.Test.YthpdlclgiggekaaJ25
import Derived.Deep.RegionHeld3
import Derived.Test.YthpdlclgiggekaaRows
import Derived.Test.YthpdlclgiggekaaJ00
import Derived.ProofKit
import Derived.OpenShut
import Derived.Deep.DeepHandedRow
import Derived.Lib.LaidTab
import Derived.Deep.Slices
import Derived.Test.YthpdlclgiggekaaJ03
import Derived.Test.YthpdlclgiggekaaChecked
namespace Go.Proofs.Ythpdlclgiggekaa
open Go.RowKit
set_option linter.unusedVariables false

theorem unpacks_two (L : List Nat) (at_ : Int) (h47 : L.length ≤ 140737488355328) : ∃ K V E1 P2 E2, (∀ (w : World) (a : Option Addr) (m c : Nat), Rd w (.slice a m c) L → Calls Try.prog 28 #[.slice a m c, .int .i64 at_] w fun r w' => ∃ D P E, r = .returned (.tuple #[.agg D.cells, .int .i64 ((P : Nat) : Int), .int .i64 ((E : Nat) : Int)]) ∧ UDet K V E1 P2 E2 D P E ∧ OwnV w' w.heap.size D ∧ Below w.heap.size w w') ∧ (∀ (w : World) (a : Option Addr) (m c : Nat), Rd w (.slice a m c) L → Calls Try.prog 44 #[.slice a m c, .int .i64 at_] w fun r w' => ∃ D P E, r = .returned (.tuple #[.agg D.cells, .int .i64 ((P : Nat) : Int), .int .i64 ((E : Nat) : Int)]) ∧ UDet K V E1 P2 E2 D P E ∧ OwnV w' w.heap.size D ∧ Below w.heap.size w w') := by
  by_cases h : 0 ≤ at_ ∧ at_ ≤ (L.length : Int)
  · obtain ⟨k, rfl⟩ := Int.eq_ofNat_of_zero_le h.1
    obtain ⟨⟨K, P1, E1⟩, q1⟩ : ∃ x, bytesR L k 1048 = x := ⟨_, rfl⟩
    obtain ⟨⟨V, P2, E2⟩, q2⟩ : ∃ x, bytesR L P1 4096 = x := ⟨_, rfl⟩
    exact ⟨K, V, E1, P2, E2, fun w a m c hr => unpack_own hr (by omega) h47 q1 q2, fun w a m c hr => refUnpack_own hr (by omega) h47 q1 q2⟩
  · exact ⟨[], [], 1, 0, 0, fun w a m c hr => unpack_out hr (by omega), fun w a m c hr => refUnpack_out hr (by omega)⟩

set_option maxRecDepth 100000 in
set_option maxHeartbeats 16000000 in
theorem cellUnpacks_walk {v0 : Value} {r : List Nat} {w : World} (hr0 : Rd w v0 r) (at_ : Int) :
    Calls Try.prog 10 #[v0, .int .i64 at_] w fun q w' => q = .returned (.bool true) ∧ Below w.heap.size w w' := by
  obtain ⟨x0, y0, z0, rfl⟩ := rd_slice hr0
  obtain ⟨L, hL⟩ : ∃ L, L = r.take 20000 := ⟨_, rfl⟩
  have hbL : Bys L := by rw [hL]; exact fun x hx => hr0.1 x (List.mem_of_mem_take hx)
  have hlL : L.length ≤ 20000 := by rw [hL]; simp; omega
  obtain ⟨K, V, E1, P2, E2, U1, U2⟩ := unpacks_two L at_ (by omega)
  have CU1 := Lib.hid U1
  have CU2 := Lib.hid U2
  have HL : Hid (L = r.take 20000 ∧ Bys L ∧ L.length ≤ 20000) := ⟨hL, hbL, hlL⟩
  have HR : Hid (Rd w (.slice x0 y0 z0) r) := hr0
  clear hr0 hL hbL hlL U1 U2
  go_enter Try.func10, Try.ntmps10
  go_wp2_with fail
  refine (told_any _).mono ?_
  rintro q w1 ⟨rfl, B1⟩
  go_wp2_with fail
  refine (laid_any (N := 20000) (HR.out.later B1) (by decide)).mono ?_
  rintro q w2 ⟨u, rfl, li2, hb2⟩
  rw [← HL.out.1] at li2
  have B2 := B1.trans (hb2.mono B1.size)
  have HW2 : Hid (w.heap.size ≤ w2.heap.size) := B2.size
  obtain ⟨gi, ci, rfl, hci, hcm, ho⟩ := li2
  have li2 : Laid w2 _ (.slice (some ⟨gi, 0, none⟩) L.length ci) L := ⟨gi, ci, rfl, hci, hcm, ho⟩
  have HGI : Hid (gi < w2.heap.size) := (ho.2.lt gi rfl).2
  clear hb2 ho B1
  obtain ⟨nL, hnL⟩ : ∃ n, n = L.length := ⟨_, rfl⟩
  rw [← hnL] at li2 ⊢
  have HNL : Hid (nL = L.length) := hnL
  have LI2 := Lib.hid li2
  clear hnL hci hcm li2
  go_wp2_with fail
  refine (copied_any (LI2.out.rd HL.out.2.1 (by have := HL.out.2.2; omega)) (by have := HL.out.2.2; omega)).mono ?_
  rintro q w3 ⟨ad, md, cd, rfl, od3, hb3⟩
  have B3 := B2.trans (hb3.mono B2.size)
  have H3 : Hid (Laid w3 _ (.slice (some ⟨gi, 0, none⟩) nL ci) L ∧ Own w3 w2.heap.size (.slice ad md cd) md L) := ⟨LI2.out.later hb3, od3⟩
  have HS3 : Hid (w2.heap.size ≤ w3.heap.size) := hb3.size
  clear hb3 od3 LI2 B2
  go_wp2_with fail
  refine (CU1.out _ _ _ _ (H3.out.1.rd HL.out.2.1 (by have := HL.out.2.2; omega))).mono ?_
  rintro q w4 ⟨X, PX, EX, rfl, dx, ox, hb4⟩
  obtain ⟨ar, cr, er⟩ := own_form ox.row.2
  obtain ⟨aq, cq, eq⟩ := own_form ox.qual.2
  obtain ⟨av, cv, ev⟩ := own_form ox.val.2
  obtain ⟨vr, fam, vq, ts, sq, kd, vv, row, qual, val⟩ := X
  simp only at er eq ev
  subst er eq ev
  have A4 := (Below.refl w4.heap.size w4).alloc (Nat.le_refl _) (.cells (EntD.cells ⟨.slice ar row.length cr, fam, .slice aq qual.length cq, ts, sq, kd, .slice av val.length cv, row, qual, val⟩) 35)
  have hb4' := hb4.trans (A4.mono hb4.size)
  have BX4 := Lib.hid (EBox.new w4 ⟨.slice ar row.length cr, fam, .slice aq qual.length cq, ts, sq, kd, .slice av val.length cv, row, qual, val⟩)
  have B4 := B3.trans (hb4'.mono B3.size)
  have HDX := Lib.hid dx
  have IX : Hid ((∀ g, (Value.slice ar row.length cr).ownBlock = some g ∨ (Value.slice aq qual.length cq).ownBlock = some g ∨ (Value.slice av val.length cv).ownBlock = some g → w3.heap.size ≤ g ∧ g < w4.heap.size) ∧ w3.heap.size ≤ w4.heap.size) := ⟨fun g hg => by
    rcases hg with hg | hg | hg
    · exact ox.row.2.lt g hg
    · exact ox.qual.2.lt g hg
    · exact ox.val.2.lt g hg, hb4.size⟩
  have ID : Hid (∀ g, (Value.slice ad md cd).ownBlock = some g → w2.heap.size ≤ g ∧ g < w3.heap.size) := fun g hg => H3.out.2.2.lt g hg
  have H4 := Lib.hid (And.intro (H3.out.1.later hb4') (And.intro (H3.out.2.later hb4') (ox.later A4)))
  clear dx ox hb4 hb4' B3 H3 A4
  simp only [EntD.cells] at H4 BX4 B4 ⊢
  go_wp2_with fail
  refine (CU2.out _ _ _ _ (H4.out.2.1.rd HL.out.2.1 (by rw [H4.out.2.1.1]; have := HL.out.2.2; omega))).mono ?_
  rintro q w5 ⟨Y, PY, EY, rfl, dy, oy, hb5⟩
  obtain ⟨rfl, rfl, sxy⟩ := HDX.out.same dy
  obtain ⟨ar2, cr2, er⟩ := own_form oy.row.2
  obtain ⟨aq2, cq2, eq⟩ := own_form oy.qual.2
  obtain ⟨av2, cv2, ev⟩ := own_form oy.val.2
  obtain ⟨vr, fam2, vq, ts2, sq2, kd2, vv, row2, qual2, val2⟩ := Y
  simp only at er eq ev
  subst er eq ev
  have A5 := (Below.refl w5.heap.size w5).alloc (Nat.le_refl _) (.cells (EntD.cells ⟨.slice ar2 row2.length cr2, fam2, .slice aq2 qual2.length cq2, ts2, sq2, kd2, .slice av2 val2.length cv2, row2, qual2, val2⟩) 35)
  have hb5' := hb5.trans (A5.mono hb5.size)
  have B5 := B4.trans (hb5'.mono B4.size)
  have HXY := Lib.hid sxy
  have HDY := Lib.hid dy
  have BX5 := BX4.out.later hb5'
  have BY5 := EBox.new w5 ⟨.slice ar2 row2.length cr2, fam2, .slice aq2 qual2.length cq2, ts2, sq2, kd2, .slice av2 val2.length cv2, row2, qual2, val2⟩
  have HS5 : Hid (w4.heap.size + 1 ≤ w5.heap.size) := by unfold Hid; have := hb5.size; simpa using this
  have H5 := Lib.hid (And.intro (H4.out.1.later hb5') (And.intro (H4.out.2.1.later hb5') (And.intro (H4.out.2.2.later hb5') (And.intro (oy.later A5) (And.intro BX5 BY5)))))
  obtain ⟨c0, c1, c2, c3, c4, c5, c6⟩ := BX5.cells7
  obtain ⟨d0, d1, d2, d3, d4, d5, d6⟩ := BY5.cells7
  clear dy oy hb5 hb5' B4 H4 A5 sxy BX5 BY5 BX4
  simp only [EntD.cells] at H5 B5 c0 c1 c2 c3 c4 c5 c6 d0 d1 d2 d3 d4 d5 d6 ⊢
  go_wp2_with fail
  refine (sameEntry_eq H5.out.2.2.1.ok H5.out.2.2.2.1.ok HXY.out).mono ?_
  rintro q w6 ⟨rfl, hb6⟩
  have B6 := B5.trans (hb6.mono B5.size)
  have H6 := Lib.hid (And.intro (H5.out.1.later hb6) (And.intro (H5.out.2.1.later hb6) (And.intro (H5.out.2.2.1.later hb6) (And.intro (H5.out.2.2.2.1.later hb6) (And.intro (H5.out.2.2.2.2.1.later hb6) (H5.out.2.2.2.2.2.later hb6))))))
  have HS6 : Hid (w5.heap.size + 1 ≤ w6.heap.size) := by unfold Hid; have := hb6.size; simpa using this
  clear hb6 B5 H5 c0 c1 c2 c3 c4 c5 c6 d0 d1 d2 d3 d4 d5 d6
  go_wp2_with fail
  refine (intact_any H6.out.1 (H6.out.2.1.rd HL.out.2.1 (by rw [H6.out.2.1.1]; have := HL.out.2.2; omega)) (by have := HL.out.2.2; omega)).mono ?_
  rintro q w7 ⟨rfl, hb7⟩
  have B7 := B6.trans (hb7.mono B6.size)
  have H7 := Lib.hid (And.intro (H6.out.1.later hb7) (And.intro (H6.out.2.1.later hb7) (And.intro (H6.out.2.2.1.later hb7) (And.intro (H6.out.2.2.2.1.later hb7) (And.intro (H6.out.2.2.2.2.1.later hb7) (H6.out.2.2.2.2.2.later hb7))))))
  have HS7 : Hid (w6.heap.size ≤ w7.heap.size) := hb7.size
  clear hb7 B6 H6
  have D0 : Below w7.heap.size w7 w7.drew := (Below.refl _ _).drew
  have HD := Lib.hid (And.intro (H7.out.1.later D0) (And.intro (H7.out.2.1.later D0) (And.intro (H7.out.2.2.1.later D0) (And.intro (H7.out.2.2.2.1.later D0) (And.intro (H7.out.2.2.2.2.1.later D0) (H7.out.2.2.2.2.2.later D0))))))
  have B7D := Lib.hid (B7.trans (D0.mono B7.size))
  have HSS : Hid (w.heap.size ≤ w2.heap.size ∧ w2.heap.size ≤ w3.heap.size ∧ w3.heap.size ≤ w4.heap.size ∧ w4.heap.size + 1 ≤ w5.heap.size ∧ w5.heap.size + 1 ≤ w7.heap.size) := ⟨HW2.out, HS3.out, IX.out.2, HS5.out, by have := HS6.out; have := HS7.out; omega⟩
  have ROW : Hid (Own w7.drew w3.heap.size (.slice ar row.length cr) row.length row) := HD.out.2.2.1.row
  have QUA : Hid (Own w7.drew w3.heap.size (.slice aq qual.length cq) qual.length qual) := HD.out.2.2.1.qual
  have VAL : Hid (Own w7.drew w3.heap.size (.slice av val.length cv) val.length val) := HD.out.2.2.1.val
  have LENS : Hid (row.length ≤ 256 ∧ qual.length ≤ 256 ∧ val.length ≤ 4096) := ⟨HD.out.2.2.1.br.2, HD.out.2.2.1.bq.2, HD.out.2.2.1.bv.2⟩
  have APR : Hid ((∀ g, (Value.slice ar row.length cr).ownBlock = some g → (Value.slice aq qual.length cq).ownBlock ≠ some g) ∧ (∀ g, (Value.slice ar row.length cr).ownBlock = some g → (Value.slice av val.length cv).ownBlock ≠ some g) ∧ (∀ g, (Value.slice aq qual.length cq).ownBlock = some g → (Value.slice av val.length cv).ownBlock ≠ some g)) := ⟨HD.out.2.2.1.arq, HD.out.2.2.1.arv, HD.out.2.2.1.aqv⟩
  have K0 : Hid (w7.drew.cell? ⟨w4.heap.size, 0, none⟩ = some (.slice ar row.length cr) ∧ w7.drew.cell? ⟨w4.heap.size, 2, none⟩ = some (.slice aq qual.length cq) ∧ w7.drew.cell? ⟨w4.heap.size, 6, none⟩ = some (.slice av val.length cv)) := ⟨HD.out.2.2.2.2.1.vr, HD.out.2.2.2.2.1.vq, HD.out.2.2.2.2.1.vv⟩
  have HC1 : Hid (∀ wx, Own wx w3.heap.size (.slice ar row.length cr) row.length row → w3.heap.size ≤ wx.heap.size → Calls Try.prog 38 #[.slice ar row.length cr, .int .u8 17] wx fun e w' => ∃ G, e = .returned (.slice (some ⟨G, 0, none⟩) 4 4) ∧ Marked wx w' (.slice ar row.length cr) G 17 ∧ wx.grownBy w' (Value.slice ar row.length cr).ownBlock) := fun wx h hs => longer_any (mk := 17) h (by decide) (by have := LENS.out.1; omega) hs
  have HC2 : Hid (∀ wx, Own wx w3.heap.size (.slice aq qual.length cq) qual.length qual → w3.heap.size ≤ wx.heap.size → Calls Try.prog 38 #[.slice aq qual.length cq, .int .u8 18] wx fun e w' => ∃ G, e = .returned (.slice (some ⟨G, 0, none⟩) 4 4) ∧ Marked wx w' (.slice aq qual.length cq) G 18 ∧ wx.grownBy w' (Value.slice aq qual.length cq).ownBlock) := fun wx h hs => longer_any (mk := 18) h (by decide) (by have := LENS.out.2.1; omega) hs
  have HC3 : Hid (∀ wx, Own wx w3.heap.size (.slice av val.length cv) val.length val → w3.heap.size ≤ wx.heap.size → Calls Try.prog 38 #[.slice av val.length cv, .int .u8 19] wx fun e w' => ∃ G, e = .returned (.slice (some ⟨G, 0, none⟩) 4 4) ∧ Marked wx w' (.slice av val.length cv) G 19 ∧ wx.grownBy w' (Value.slice av val.length cv).ownBlock) := fun wx h hs => longer_any (mk := 19) h (by decide) (by have := LENS.out.2.2; omega) hs
  have hs70 : Hid (w3.heap.size ≤ w7.drew.heap.size) := by unfold Hid; have := HSS.out; simp; omega
  have EB1 : Hid (∀ wx, w7.drew.grownBy wx (Value.slice ar row.length cr).ownBlock → EBox wx w4.heap.size ⟨.slice ar row.length cr, fam, .slice aq qual.length cq, ts, sq, kd, .slice av val.length cv, row, qual, val⟩ ∧ Own wx w3.heap.size (.slice aq qual.length cq) qual.length qual ∧ Own wx w3.heap.size (.slice av val.length cv) val.length val ∧ (wx.cell? ⟨w4.heap.size, 0, none⟩ = some (.slice ar row.length cr) ∧ wx.cell? ⟨w4.heap.size, 2, none⟩ = some (.slice aq qual.length cq) ∧ wx.cell? ⟨w4.heap.size, 6, none⟩ = some (.slice av val.length cv)) ∧ w3.heap.size ≤ wx.heap.size) := fun wx h => by
    have e := HD.out.2.2.2.2.1.far h (fun g hg => ebox_own HD.out.2.2.2.2.1 ROW.out hg)
    exact ⟨e, QUA.out.far h (fun g hg => APR.out.1 g hg), VAL.out.far h (fun g hg => APR.out.2.1 g hg), ⟨e.vr, e.vq, e.vv⟩, Nat.le_trans hs70.out h.size⟩
  have EB2 : Hid (∀ wx wy, EBox wx w4.heap.size ⟨.slice ar row.length cr, fam, .slice aq qual.length cq, ts, sq, kd, .slice av val.length cv, row, qual, val⟩ → Own wx w3.heap.size (.slice aq qual.length cq) qual.length qual → Own wx w3.heap.size (.slice av val.length cv) val.length val → w3.heap.size ≤ wx.heap.size → wx.grownBy wy (Value.slice aq qual.length cq).ownBlock → EBox wy w4.heap.size ⟨.slice ar row.length cr, fam, .slice aq qual.length cq, ts, sq, kd, .slice av val.length cv, row, qual, val⟩ ∧ Own wy w3.heap.size (.slice av val.length cv) val.length val ∧ (wy.cell? ⟨w4.heap.size, 0, none⟩ = some (.slice ar row.length cr) ∧ wy.cell? ⟨w4.heap.size, 2, none⟩ = some (.slice aq qual.length cq) ∧ wy.cell? ⟨w4.heap.size, 6, none⟩ = some (.slice av val.length cv)) ∧ w3.heap.size ≤ wy.heap.size) := fun wx wy e q v hs h => by
    have e2 := e.far h (fun g hg => ebox_own e q hg)
    exact ⟨e2, v.far h (fun g hg => APR.out.2.2 g hg), ⟨e2.vr, e2.vq, e2.vv⟩, Nat.le_trans hs h.size⟩
  have EB3 : Hid (∀ wx wy, EBox wx w4.heap.size ⟨.slice ar row.length cr, fam, .slice aq qual.length cq, ts, sq, kd, .slice av val.length cv, row, qual, val⟩ → Own wx w3.heap.size (.slice av val.length cv) val.length val → wx.grownBy wy (Value.slice av val.length cv).ownBlock → (wy.cell? ⟨w4.heap.size, 0, none⟩ = some (.slice ar row.length cr) ∧ wy.cell? ⟨w4.heap.size, 2, none⟩ = some (.slice aq qual.length cq) ∧ wy.cell? ⟨w4.heap.size, 6, none⟩ = some (.slice av val.length cv))) := fun wx wy e v h => by
    have e2 := e.far h (fun g hg => ebox_own e v hg)
    exact ⟨e2.vr, e2.vq, e2.vv⟩
  clear D0 H7 B7
  go_wp2_with fail
  go_region_held3 (fun wx => wx.cell? ⟨w4.heap.size, 0, none⟩ = some (.slice ar row.length cr) ∧ wx.cell? ⟨w4.heap.size, 2, none⟩ = some (.slice aq qual.length cq) ∧ wx.cell? ⟨w4.heap.size, 6, none⟩ = some (.slice av val.length cv)) (first | exact K0.out | exact E8.out.2.2.2.1 | exact E9.out.2.2.1 | exact EA.out)
    (first
      | (go_at_call 38; refine (HC3.out _ HQ9.out E9.out.2.2.2).mono ?_; rintro qA wA ⟨G3, rfl, mk3, gr3⟩; have EA := Lib.hid (EB3.out _ _ E9.out.1 HQ9.out gr3); have HG3 := Lib.hid gr3; have HM3 := Lib.hid mk3; clear gr3 mk3)
      | (go_at_call 38; refine (HC2.out _ HQ8.out E8.out.2.2.2.2).mono ?_; rintro q9 w9 ⟨G2, rfl, mk2, gr2⟩; have E9 := Lib.hid (EB2.out _ _ E8.out.1 E8.out.2.1 E8.out.2.2.1 E8.out.2.2.2.2 gr2); have HG2 := Lib.hid gr2; have HM2 := Lib.hid mk2; have HQ9 := Lib.hid (EB2.out _ _ E8.out.1 E8.out.2.1 E8.out.2.2.1 E8.out.2.2.2.2 gr2).2.1; have HO8 := Lib.hid HQ8.out; clear gr2 mk2 HQ8)
      | (go_at_call 38; refine (HC1.out _ ROW.out hs70.out).mono ?_; rintro q8 w8 ⟨G1, rfl, mk1, gr1⟩; have E8 := Lib.hid (EB1.out _ gr1); have HS8 : Hid (w7.heap.size ≤ w8.heap.size) := (by unfold Hid; have := gr1.size; simpa using this); have HG1 := Lib.hid gr1; have HM1 := Lib.hid mk1; have HQ8 := Lib.hid (EB1.out _ gr1).2.1; clear gr1 mk1))
  have R1 : Hid (∀ g, (Value.slice ar row.length cr).ownBlock = some g → w3.heap.size ≤ g ∧ g < w4.heap.size) := fun g hg => IX.out.1 g (.inl hg)
  have R2 : Hid (∀ g, (Value.slice aq qual.length cq).ownBlock = some g → w3.heap.size ≤ g ∧ g < w4.heap.size) := fun g hg => IX.out.1 g (.inr (.inl hg))
  have R3 : Hid (∀ g, (Value.slice av val.length cv).ownBlock = some g → w3.heap.size ≤ g ∧ g < w4.heap.size) := fun g hg => IX.out.1 g (.inr (.inr hg))
  have S8 : Hid (w8.heap.size ≤ w9.heap.size ∧ w9.heap.size ≤ wA.heap.size) := ⟨HG2.out.size, HG3.out.size⟩
  have LA := ((HD.out.1.far HG1.out (fun g hg h => by have := R1.out g hg; have := HGI.out; have := HSS.out; simp [Value.ownBlock] at h; omega)).far HG2.out (fun g hg h => by have := R2.out g hg; have := HGI.out; have := HSS.out; simp [Value.ownBlock] at h; omega)).far HG3.out (fun g hg h => by have := R3.out g hg; have := HGI.out; have := HSS.out; simp [Value.ownBlock] at h; omega)
  have OA := ((HD.out.2.1.far HG1.out (fun g hg h => by have := R1.out g hg; have := ID.out g h; omega)).far HG2.out (fun g hg h => by have := R2.out g hg; have := ID.out g h; omega)).far HG3.out (fun g hg h => by have := R3.out g hg; have := ID.out g h; omega)
  have YA := ((HD.out.2.2.2.1.far HG1.out (fun g hg => by have := R1.out g hg; simp; omega)).far HG2.out (fun g hg => by have := R2.out g hg; simp; omega)).far HG3.out (fun g hg => by have := R3.out g hg; simp; omega)
  have XA := E9.out.1.far HG3.out (fun g hg => ebox_own E9.out.1 HQ9.out hg)
  have V8 := HD.out.2.2.2.2.2.far HG1.out (fun g hg => ebox_own HD.out.2.2.2.2.2 ROW.out hg)
  have V9 := V8.far HG2.out (fun g hg => ebox_own V8 E8.out.2.1 hg)
  have VA := V9.far HG3.out (fun g hg => ebox_own V9 HQ9.out hg)
  have M1 := (HM1.out.still HG2.out (fun g hg => ⟨by have := R2.out g hg; have := HSS.out; simp; omega, fun h => APR.out.1 g h hg⟩)).still HG3.out (fun g hg => ⟨by have := R3.out g hg; have := HSS.out; simp; omega, fun h => APR.out.2.1 g h hg⟩)
  have M2 := HM2.out.still HG3.out (fun g hg => ⟨by have := R3.out g hg; have := HSS.out; have := HS8.out; omega, fun h => APR.out.2.2 g h hg⟩)
  have M3 := HM3.out
  have B8 := below_grows B7D.out ROW.out (by have := HSS.out; omega) HG1.out
  have B9 := below_grows B8 E8.out.2.1 (by have := HSS.out; omega) HG2.out
  have BA := below_grows B9 HQ9.out (by have := HSS.out; omega) HG3.out
  have HA := Lib.hid (And.intro LA (And.intro OA (And.intro YA (And.intro XA (And.intro VA (And.intro M1 (And.intro M2 M3)))))))
  have HBA := Lib.hid BA
  clear LA OA YA XA V8 V9 VA M1 M2 M3 B8 B9 BA HD K0 HG1 HG2 HG3 HM1 HM2 HM3 HQ9 B7D E8 E9 EA EB1 EB2 EB3 HC1 HC2 HC3 ROW QUA VAL
  go_wp2_with fail
  refine (CU1.out _ _ _ _ (HA.out.1.rd HL.out.2.1 (by have := HL.out.2.2; omega))).mono ?_
  rintro q w10 ⟨Z, PZ, EZ, rfl, dz, oz, hb10⟩
  obtain ⟨rfl, rfl, szy⟩ := HDY.out.same dz
  obtain ⟨ar3, cr3, er⟩ := own_form oz.row.2
  obtain ⟨aq3, cq3, eq⟩ := own_form oz.qual.2
  obtain ⟨av3, cv3, ev⟩ := own_form oz.val.2
  obtain ⟨vr, fam3, vq, ts3, sq3, kd3, vv, row3, qual3, val3⟩ := Z
  simp only at er eq ev
  subst er eq ev
  have B10 := HBA.out.trans (hb10.mono HBA.out.size)
  have XB := HA.out.2.2.2.1.later hb10
  have YB := HA.out.2.2.2.2.1.later hb10
  have n1 : ¬ (w5.heap.size = w4.heap.size) := by have := HSS.out; omega
  have n2 : ¬ (w4.heap.size = w5.heap.size) := by have := HSS.out; omega
  have fa := filled_apart w10 w4.heap.size ⟨.slice ar3 row3.length cr3, fam3, .slice aq3 qual3.length cq3, ts3, sq3, kd3, .slice av3 val3.length cv3, row3, qual3, val3⟩
  have fg := filled_grown w10 w4.heap.size ⟨.slice ar3 row3.length cr3, fam3, .slice aq3 qual3.length cq3, ts3, sq3, kd3, .slice av3 val3.length cv3, row3, qual3, val3⟩
  have F1 := (HA.out.2.2.2.2.2.1.later hb10).far fg (fun g hg => by
    cases hg
    exact ⟨by have := HSS.out; simp; omega, fun h => by have := R1.out _ h; omega⟩)
  have F2 := (HA.out.2.2.2.2.2.2.1.later hb10).far fg (fun g hg => by
    cases hg
    exact ⟨by have := HSS.out; have := HS8.out; omega, fun h => by have := R2.out _ h; omega⟩)
  have F3 := (HA.out.2.2.2.2.2.2.2.later hb10).far fg (fun g hg => by
    cases hg
    exact ⟨by have := HSS.out; have := HS8.out; have := S8.out; omega, fun h => by have := R3.out _ h; omega⟩)
  have HF := Lib.hid (And.intro ((HA.out.1.later hb10).fillB (E := ⟨.slice ar3 row3.length cr3, fam3, .slice aq3 qual3.length cq3, ts3, sq3, kd3, .slice av3 val3.length cv3, row3, qual3, val3⟩) XB) (And.intro ((HA.out.2.1.later hb10).apartE XB fa) (And.intro ((HA.out.2.2.1.later hb10).fill (g := w4.heap.size) (E := ⟨.slice ar3 row3.length cr3, fam3, .slice aq3 qual3.length cq3, ts3, sq3, kd3, .slice av3 val3.length cv3, row3, qual3, val3⟩) (by simp)) (And.intro (oz.fill (g := w4.heap.size) (E := ⟨.slice ar3 row3.length cr3, fam3, .slice aq3 qual3.length cq3, ts3, sq3, kd3, .slice av3 val3.length cv3, row3, qual3, val3⟩) (by have := HSS.out; have := HS8.out; have := S8.out; omega)) (And.intro F1 (And.intro F2 (And.intro F3 (B10.trans (fa.below (by have := HSS.out; omega) B10.size)))))))))
  have HZY := Lib.hid szy.symm
  obtain ⟨x0', x1, x2, x3, x4, x5, x6⟩ := XB.cells7
  obtain ⟨xf0, xf1, xf2, xf3, xf4, xf5, xf6⟩ := XB.fz7
  obtain ⟨d0, d1, d2, d3, d4, d5, d6⟩ := YB.cells7
  simp only at x0' x1 x2 x3 x4 x5 x6 d0 d1 d2 d3 d4 d5 d6
  clear dz oz hb10 B10 XB YB fa fg HA szy F1 F2 F3
  simp only [EntD.cells]
  go_wp2_with fail
  refine (sameEntry_eq (w := filled w10 w4.heap.size ⟨.slice ar3 row3.length cr3, fam3, .slice aq3 qual3.length cq3, ts3, sq3, kd3, .slice av3 val3.length cv3, row3, qual3, val3⟩) HF.out.2.2.2.1.ok HF.out.2.2.1.ok HZY.out).mono ?_
  rintro q w11 ⟨rfl, hb11⟩
  have H11 := Lib.hid (And.intro (HF.out.1.later hb11) (And.intro (HF.out.2.1.later hb11) (And.intro (HF.out.2.2.2.2.1.later hb11) (And.intro (HF.out.2.2.2.2.2.1.later hb11) (And.intro (HF.out.2.2.2.2.2.2.1.later hb11) (HF.out.2.2.2.2.2.2.2.trans (hb11.mono HF.out.2.2.2.2.2.2.2.size)))))))
  clear hb11 HF x0' x1 x2 x3 x4 x5 x6 xf0 xf1 xf2 xf3 xf4 xf5 xf6 d0 d1 d2 d3 d4 d5 d6
  go_wp2_with fail
  refine (intact_any H11.out.1 (H11.out.2.1.rd HL.out.2.1 (by rw [H11.out.2.1.1]; have := HL.out.2.2; omega)) (by have := HL.out.2.2; omega)).mono ?_
  rintro q w12 ⟨rfl, hb12⟩
  have H12 := Lib.hid (And.intro (H11.out.2.2.1.later hb12) (And.intro (H11.out.2.2.2.1.later hb12) (And.intro (H11.out.2.2.2.2.1.later hb12) (H11.out.2.2.2.2.2.trans (hb12.mono H11.out.2.2.2.2.2.size)))))
  clear hb12 H11
  go_wp2_with fail
  refine (full_any H12.out.1).mono ?_
  rintro q w13 ⟨rfl, hw13⟩
  subst hw13
  go_wp2_with fail
  refine (full_any H12.out.2.1).mono ?_
  rintro q w14 ⟨rfl, hw14⟩
  subst hw14
  go_wp2_with fail
  refine (full_any H12.out.2.2.1).mono ?_
  rintro q w15 ⟨rfl, hw15⟩
  subst hw15
  go_wp2
  go_ret
  exact ⟨rfl, H12.out.2.2.2⟩

end Go.Proofs.Ythpdlclgiggekaa

namespace Go.Proofs.Ythpdlclgiggekaa
open Go.ChangeShapes Go.WideShapes Go.ChangeAt Go.RowKit
set_option linter.unusedVariables false

theorem own_knob : ownKnob Try.prog.godebug = none := by kernel_rfl
theorem laid_out : laidOutB Try.prog = true := by kernel_rfl
theorem und_int : Try.prog.underlying 3 = some (.int .i64) := by kernel_rfl
theorem und_u64 : Try.prog.underlying 110 = some (.int .u64) := by kernel_rfl
theorem und_bool : Try.prog.underlying 4 = some .bool := by kernel_rfl
theorem cells_byte : Try.prog.cellsOf 5 = 1 := by kernel_rfl
theorem cells_bytes : Try.prog.cellsOf 33 = 1 := by kernel_rfl

theorem bulk_pos {H : Type} (d : DataW H) : 1 ≤ Rows.uptoBulk d := by
  cases d with
  | lit l => cases l <;> simp [Rows.uptoBulk]
  | nil => simp [Rows.uptoBulk]
  | ptr d => simp [Rows.uptoBulk]
  | slice elems spare => simp [Rows.uptoBulk]
  | agg parts => simp [Rows.uptoBulk]
  | iface t d => simp [Rows.uptoBulk]
  | map entries => simp [Rows.uptoBulk]
  | held h => simp [Rows.uptoBulk]
theorem bulk_len {H : Type} (l : List (DataW H)) : l.length ≤ Rows.uptoBulkAll l := by
  induction l with
  | nil => simp [Rows.uptoBulkAll]
  | cons x r ih => have := bulk_pos x; simp only [Rows.uptoBulkAll, List.length_cons]; omega

/-- A slice of bytes that came in. -/
theorem open_bytes {H : Type} {enc : TypeId × Value → H} {W : World} {v : Value} {d : DataW H} {p : List MemPlace} {base : Nat} {held : Bool} (h : DataW.Trod enc Try.prog W base (fun _ => true) held 33 v d p) (hs : ∃ a n c, v = .slice a n c) :
    ∃ bs : List Nat, (bs.length ≤ 281474976710656 → Rd W v bs) ∧ bs.length + 1 ≤ Rows.uptoBulk d ∧ (bs = [] ∨ ∃ elems spare, d = .slice elems spare ∧ elems.length = bs.length) := by
  obtain ⟨a, n, c, rfl⟩ := hs
  obtain ⟨fuel, hf⟩ := h
  rcases open_ints und_bytes und_byte cells_byte hf with ⟨hcs, hx⟩ | ⟨x, l, c', zs, hcs, _, hl, hm, hz, hx, hcell, hwz⟩
  · simp [Value.cells] at hcs
    obtain ⟨rfl, rfl, rfl⟩ := hcs
    refine ⟨[], fun _ => Rd.nil W, ?_, .inl rfl⟩
    have := bulk_pos d
    simpa using this
  · simp [Value.cells] at hcs
    obtain ⟨rfl, rfl, rfl⟩ := hcs
    simp only [if_true] at hz
    simp only [Prod.mk.injEq] at hx
    obtain ⟨rfl, _⟩ := hx
    have hby : ∀ i, i < zs.length → 0 ≤ zs.getD i 0 ∧ zs.getD i 0 < 256 := by
      intro i hi
      have hmem : zs.getD i 0 ∈ zs := by simp [List.getD, List.getElem?_eq_getElem hi]
      have := bounds_u8 (hwz _ hmem)
      omega
    refine ⟨(zs.take n).map Int.toNat, fun hlen => ⟨?_, some x, c, ?_, ?_, hm, hlen, ?_, ?_⟩, ?_, .inr ⟨_, _, rfl, by simp [lits]⟩⟩
    · intro y hy
      simp only [List.mem_map] at hy
      obtain ⟨z, hz1, rfl⟩ := hy
      have := bounds_u8 (hwz z (List.mem_of_mem_take hz1))
      omega
    · simp; omega
    · simp; omega
    · by_cases hc0 : c = 0
      · exact .inl hc0
      · right
        obtain ⟨b, off, spot⟩ := x
        have hc := hcell 0 (by omega)
        have hspot : spot = none := by simpa [Addr.add] using World.cell?_spot hc
        subst hspot
        exact ⟨b, off, rfl⟩
    · by_cases hn0 : n = 0
      · left; simp [hn0]
      · right
        obtain ⟨b, off, spot⟩ := x
        have hc := hcell 0 (by omega)
        have hspot : spot = none := by simpa [Addr.add] using World.cell?_spot hc
        subst hspot
        refine ⟨b, off, rfl, fun i hi => ?_⟩
        have hin : i < n := by simp at hi; omega
        have hc := hcell i (by omega)
        have e : (⟨b, off, none⟩ : Addr).add i = ⟨b, off + i, none⟩ := by unfold Addr.add; split <;> simp_all
        rw [e] at hc
        rw [hc]
        have hb := hby i (by omega)
        have e2 : ((zs.take n).map Int.toNat).getD i 0 = (zs.getD i 0).toNat := by
          simp [List.getElem?_take_of_lt hin, List.getElem?_eq_getElem (show i < zs.length by omega)]
        rw [e2, Int.toNat_of_nonneg hb.1]
    · have h1 := bulk_len (H := H) (lits .u8 (zs.take n))
      simp only [Rows.uptoBulk]
      simp [lits] at h1 ⊢
      omega

/-- What the reach gives of a slice of bytes. -/
theorem reach_bytes {H : Type} {ts : List TypeId} {ds gs : List (DataW H)} (h : (DataW.weightsEach Try.prog ts (ds ++ gs)).all (fun x => decide (x ≤ reachBytes)) = true) (j : Nat) (ht : ts[j]? = some 33) {d : DataW H} (hd : ds[j]? = some d) {bs : List Nat} (hx : bs = [] ∨ ∃ elems spare, d = .slice elems spare ∧ elems.length = bs.length) : bs.length ≤ 140737488351232 := by
  rcases hx with rfl | ⟨elems, spare, rfl, hl⟩
  · simp
  · have hd2 : (ds ++ gs)[j]? = some (.slice elems spare) := by
      rw [List.getElem?_append_left (List.getElem?_eq_some_iff.1 hd).1]
      exact hd
    have := sized_slice h ht hd2 und_bytes
    rw [show Try.prog.bytesOf 5 = 1 by kernel_rfl] at this
    unfold reachBytes at this
    omega

end Go.Proofs.Ythpdlclgiggekaa

namespace Go.Proofs.Ythpdlclgiggekaa
open Go.ChangeShapes Go.WideShapes Go.ChangeAt Go.RowKit
set_option linter.unusedVariables false

set_option maxRecDepth 100000 in
theorem und_entry : Try.prog.underlying 35 = some (.struct #[{ name := "Row", type := 33, offset := 0, embedded := false, tag := "", pkgPath := "", byteOffset := 0 }, { name := "Fam", type := 3, offset := 1, embedded := false, tag := "", pkgPath := "", byteOffset := 24 }, { name := "Qual", type := 33, offset := 2, embedded := false, tag := "", pkgPath := "", byteOffset := 32 }, { name := "Ts", type := 3, offset := 3, embedded := false, tag := "", pkgPath := "", byteOffset := 56 }, { name := "Seq", type := 3, offset := 4, embedded := false, tag := "", pkgPath := "", byteOffset := 64 }, { name := "Kind", type := 3, offset := 5, embedded := false, tag := "", pkgPath := "", byteOffset := 72 }, { name := "Value", type := 33, offset := 6, embedded := false, tag := "", pkgPath := "", byteOffset := 80 }]) := by kernel_rfl
theorem cells_entry : Try.prog.cellsOf 35 = 7 := by kernel_rfl
theorem cells_int : Try.prog.cellsOf 3 = 1 := by kernel_rfl

theorem slice_one {H : Type} {enc : TypeId × Value → H} {W : World} {base fuel : Nat} {held : Bool} {t e : TypeId} {c : Value} {x : DataW H × List MemPlace} (hu : Try.prog.underlying t = some (.slice e)) (h : DataW.trod enc Try.prog W base (fun _ => true) held fuel t [c] = some x) : (∃ a n k, c = .slice a n k) ∧ DataW.Trod enc Try.prog W base (fun _ => true) held t c x.1 x.2 := by
  have hsl : ∃ a n k, c = .slice a n k := by
    rcases DataW.trod_slice hu h with ⟨h0, _⟩ | ⟨a, len, cap, _, _, _, _, h0, _⟩
    · simp at h0; exact ⟨_, _, _, h0⟩
    · simp at h0; exact ⟨_, _, _, h0⟩
  refine ⟨hsl, fuel, ?_⟩
  obtain ⟨a, n, k, rfl⟩ := hsl
  simpa [Value.cells] using h

set_option maxRecDepth 100000 in
/-- An entry that came in. -/
theorem open_entry {H : Type} {enc : TypeId × Value → H} {W : World} {base : Nat} {held : Bool} {v : Value} {d : DataW H} {p : List MemPlace} (h0 : DataW.Trod enc Try.prog W base (fun _ => true) held 35 v d p) (hv : ∃ cs, v = .agg cs ∧ cs.size = Try.prog.cellsOf 35) :
    ∃ e : EntD, v = .agg e.cells ∧ ((e.row.length ≤ 281474976710656 ∧ e.qual.length ≤ 281474976710656 ∧ e.val.length ≤ 281474976710656) → EntD.Ok W e) ∧ (e.row.length + e.qual.length + e.val.length + 8 ≤ Rows.uptoBulk d) ∧
      ((d.weights Try.prog 35).all (fun x => decide (x ≤ reachBytes)) = true → e.row.length ≤ 140737488351232 ∧ e.qual.length ≤ 140737488351232 ∧ e.val.length ≤ 140737488351232) := by
  obtain ⟨csA, rfl, hcs⟩ := hv
  obtain ⟨fuel, h⟩ := h0
  obtain ⟨cs⟩ := csA
  simp only [Value.cells] at h
  obtain ⟨xs, n, hx, hdp, hcl, hxl, hf⟩ := DataW.trod_struct und_entry h
  simp only [Prod.mk.injEq] at hdp
  obtain ⟨rfl, rfl⟩ := hdp
  rw [cells_entry] at hcl
  obtain ⟨c0, c1, c2, c3, c4, c5, c6, rfl⟩ : ∃ c0 c1 c2 c3 c4 c5 c6, cs = [c0, c1, c2, c3, c4, c5, c6] := by
    match cs, hcl with
    | [c0, c1, c2, c3, c4, c5, c6], _ => exact ⟨_, _, _, _, _, _, _, rfl⟩
  obtain ⟨x0, x1, x2, x3, x4, x5, x6, rfl⟩ : ∃ x0 x1 x2 x3 x4 x5 x6, xs = [x0, x1, x2, x3, x4, x5, x6] := by
    match xs, hxl with
    | [c0, c1, c2, c3, c4, c5, c6], _ => exact ⟨_, _, _, _, _, _, _, rfl⟩
  have f0 := hf 0 _ rfl
  have f1 := hf 1 _ rfl
  have f2 := hf 2 _ rfl
  have f3 := hf 3 _ rfl
  have f4 := hf 4 _ rfl
  have f5 := hf 5 _ rfl
  have f6 := hf 6 _ rfl
  simp [cells_int, cells_bytes] at f0 f1 f2 f3 f4 f5 f6
  obtain ⟨n1, e1, b1, w1⟩ := DataW.trod_int und_int f1
  obtain ⟨n3, e3, b3, w3⟩ := DataW.trod_int und_int f3
  obtain ⟨n4, e4, b4, w4⟩ := DataW.trod_int und_int f4
  obtain ⟨n5, e5, b5, w5⟩ := DataW.trod_int und_int f5
  simp at e1 e3 e4 e5
  subst e1 e3 e4 e5
  obtain ⟨s0, t0⟩ := slice_one und_bytes f0
  obtain ⟨s2, t2⟩ := slice_one und_bytes f2
  obtain ⟨s6, t6⟩ := slice_one und_bytes f6
  obtain ⟨row, hr, hrl, hrd⟩ := open_bytes t0 s0
  obtain ⟨qual, hq, hql, hqd⟩ := open_bytes t2 s2
  obtain ⟨val, hw, hwl, hwd⟩ := open_bytes t6 s6
  refine ⟨⟨c0, n1, c2, n3, n4, n5, c6, row, qual, val⟩, rfl, fun h => ⟨hr h.1, hq h.2.1, hw h.2.2⟩, ?_, fun hs => ?_⟩
  · have q1 := bulk_pos x1.1
    have q3 := bulk_pos x3.1
    have q4 := bulk_pos x4.1
    have q5 := bulk_pos x5.1
    simp only [Rows.uptoBulk, List.map_cons, List.map_nil, Rows.uptoBulkAll]
    omega
  · have hs2 : (DataW.weightsEach Try.prog [33, 3, 33, 3, 3, 3, 33] ([x0.1, x1.1, x2.1, x3.1, x4.1, x5.1, x6.1] ++ [])).all (fun x => decide (x ≤ reachBytes)) = true := by
      simp only [DataW.weights, und_entry] at hs
      simpa using hs
    exact ⟨reach_bytes hs2 0 rfl rfl hrd, reach_bytes hs2 2 rfl rfl hqd, reach_bytes hs2 6 rfl rfl hwd⟩

/-- The weights of one argument. -/
theorem weight_at {H : Type} : ∀ {ts : List TypeId} {ds : List (DataW H)} (h : (DataW.weightsEach Try.prog ts ds).all (fun x => decide (x ≤ reachBytes)) = true) (j : Nat) {t : TypeId} {d : DataW H} (ht : ts[j]? = some t) (hd : ds[j]? = some d), (d.weights Try.prog t).all (fun x => decide (x ≤ reachBytes)) = true
  | [], _, _, j, _, _, ht, _ => by simp at ht
  | _ :: _, [], _, j, _, _, _, hd => by simp at hd
  | t :: ts, d :: ds, h, 0, _, _, ht, hd => by
    simp only [List.getElem?_cons_zero, Option.some.injEq] at ht hd
    subst ht hd
    simp only [DataW.weightsEach, List.all_append, Bool.and_eq_true] at h
    exact h.1
  | t :: ts, d :: ds, h, j + 1, _, _, ht, hd => by
    simp only [DataW.weightsEach, List.all_append, Bool.and_eq_true] at h
    exact weight_at h.2 j (by simpa using ht) (by simpa using hd)

end Go.Proofs.Ythpdlclgiggekaa

namespace Go.Proofs.Ythpdlclgiggekaa.cellUnpacksRow
open Go.ChangeShapes Go.WideShapes Go.ChangeAt Go.RowKit
set_option linter.unusedVariables false

set_option maxRecDepth 100000 in
theorem contract (H : Type) (enc : TypeId × Value → H) (W : World) (base : Nat) (args : Array Value) (ds gs : List (DataW H)) (before : List MemPlace)
    (hval0 : ∀ (j : Nat) t v, Try.f10.params[j]? = some t → args[j]? = some v → Value.okWide Try.prog W .any base t v)
    (hW : DataW.Whole enc Try.prog Try.f10.params.toList Rows.cellUnpacksSpec.vars false W args.toList ds gs before) (hsz : (DataW.weightsEach Try.prog (Try.f10.params.toList ++ DataSpec.varTypes Try.prog (OpenSpec.ofChange Rows.cellUnpacksSpec).bare.plain) (ds ++ gs)).all (fun x => decide (x ≤ reachBytes)) = true) :
    Calls Try.prog 10 args W fun e W' => ∃ v, e = .returned v ∧ Rows.cellUnpacksSpec.post enc Try.prog Try.f10 false true false false W args v W' := by
  have hW' := hW
  obtain ⟨p, q, hA0, hV, rfl, hfz, hnd⟩ := hW
  have hA : DataW.TrodAll enc Try.prog W 0 (fun _ => true) true Try.f10.params.toList args.toList ds p := hA0
  have hval := hval0
  rw [Try.params10] at hA hval
  obtain ⟨v0, vs0, d0, ds0, p0, q0, hargs, rfl, rfl, h0, r0⟩ := trodAll_cons hA
  obtain ⟨v1, vs1, d1, ds1, p1, q1, rfl, rfl, rfl, h1, r1⟩ := trodAll_cons r0
  obtain ⟨rfl, rfl, rfl⟩ := trodAll_nil r1
  obtain rfl : args = #[v0, v1] := by cases args; simp_all
  obtain ⟨rfl, rfl⟩ := trodVars_none hV
  have hsz2 : (DataW.weightsEach Try.prog [33, 3] ([d0, d1] ++ [])).all (fun x => decide (x ≤ reachBytes)) = true := by
    have e : Try.f10.params.toList ++ DataSpec.varTypes Try.prog (OpenSpec.ofChange Rows.cellUnpacksSpec).bare.plain = [33, 3] := by kernel_rfl
    rw [e] at hsz
    exact hsz
  have s0 := okWide_slice und_bytes (hval 0 33 v0 rfl rfl)
  have k0 := h0
  have lt0 : ∀ x ∈ p0, x.block < W.heap.size := by obtain ⟨m, hm⟩ := k0; exact DataW.trod_lt m _ _ _ hm
  obtain ⟨x0, rd0, bk0, fm0⟩ := open_bytes h0 s0
  have ln0 := reach_bytes hsz2 0 rfl rfl fm0
  obtain ⟨x1, rfl, rfl, rfl, wf1⟩ := open_int und_int (hval 1 3 v1 rfl rfl) h1
  clear hA0 hval0
  refine (cellUnpacks_walk (rd0 (by omega)) x1).mono fun e W' ⟨he, bel⟩ => ?_
  subst he
  exact ⟨_, rfl, _, _, _, [], _, [], hW', trodAll_mk1 (shut_bool und_bool _), (trodAll_cons_mk (Below.trod laid_out (by kernel_rfl) (of_decide_eq_true (by kernel_rfl)) k0 bel lt0) (trodAll_cons_mk (shut_int und_int wf1) trodAll_mk0)), rfl, bel.frame _, fun h => by cases h⟩

theorem laid_met (os : Os) : laidMet Try.prog Rows.cellUnpacksRow.laid ((World.holding Try.prog os ⟨#[], #[], []⟩ : World).forCall (fun _ _ => 0) ⟨#[], #[.slice none 0 0, .int .i64 0], []⟩).memory :=
  laidMet_of_run' 8 (by kernel_rfl) (by kernel_rfl)
theorem reads (os : Os) {H : Type} (enc : TypeId × Value → H) : ∃ places, DataW.whole enc Try.prog ((World.holding Try.prog os ⟨#[], #[], []⟩ : World).forCall (fun _ _ => 0) ⟨#[], #[.slice none 0 0, .int .i64 0], []⟩).memory Try.f10.params.toList Rows.cellUnpacksSpec.vars false (#[.slice none 0 0, .int .i64 0] : Array Value).toList 8 = some ([.nil, .lit (.int .i64 0)], [], places) :=
  ⟨[], by kernel_rfl⟩

set_option maxRecDepth 100000 in
theorem lifted (os : Os) (started : os.Started) (H : Type) (enc : TypeId × Value → H) (F : Stop.Interp) :
    ReturnsInHanded {} Try.checked os 10 .any ((OpenSpec.ofChange Rows.cellUnpacksSpec).preRow enc Try.prog Try.f10 Rows.cellUnpacksRow.domain false Rows.cellUnpacksRow.laid) (((OpenSpec.ofChange Rows.cellUnpacksSpec).at F).post enc Try.prog Try.f10 false true false false) := by
  obtain ⟨places, hx⟩ := reads os enc
  refine returnsInHanded_of_row (C := Try.checked) (s := OpenSpec.ofChange Rows.cellUnpacksSpec) own_knob started (by kernel_rfl) Try.func10
    (witness_row_at (enc := enc) (C := Try.checked) false (World.holding Try.prog os ⟨#[], #[], []⟩) #[.slice none 0 0, .int .i64 0] rfl (by kernel_rfl) (by kernel_rfl) (by kernel_rfl)
      (OpenSpec.preRow_of_cond 8 hx (by kernel_rfl) (fun k hk => by cases hk) (by kernel_rfl) (laid_met os))) ?_
  intro W base args ds gs before hval hW _ hcond hsz hL _ _
  exact contract H enc W base args ds gs before hval hW hsz

end Go.Proofs.Ythpdlclgiggekaa.cellUnpacksRow
namespace Go.Proofs.Ythpdlclgiggekaa
open Go.ChangeShapes Go.WideShapes Go.ChangeAt Go.RowKit

theorem cellUnpacks_holds : Rows.CellUnpacksSaid :=
  OpenClaim.holds_of_cond 10 Try.f10 rfl rfl rfl rfl rfl rfl rfl ⟨rfl, rfl, rfl, rfl, rfl⟩ rfl rfl rfl rfl rfl (by kernel_rfl) Try.func10 (by kernel_rfl)
    (of_decide_eq_true (by kernel_rfl)) (by unfold Func.isWrapper; first | (rw [if_pos (by decide +kernel)]; kernel_rfl) | (rw [if_neg (by decide +kernel)]; exact ⟨rfl, rfl⟩))
    (fun os started H enc _ F => by rw [OpenClaim.pre_eq_preRow]; exact cellUnpacksRow.lifted os started H enc F)
#print axioms cellUnpacks_holds
end Go.Proofs.Ythpdlclgiggekaa
