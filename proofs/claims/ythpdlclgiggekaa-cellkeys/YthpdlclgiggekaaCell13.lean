import Derived.Test.YthpdlclgiggekaaCell12
import Derived.Deep.RegionHeld3
namespace Go.Proofs.Ythpdlclgiggekaa
open Go.RowKit
set_option linter.unusedVariables false

theorem EBox.cells7 {w : World} {g : Nat} {e : EntD} (h : EBox w g e) : w.cell? ⟨g, 0, none⟩ = some e.vr ∧ w.cell? ⟨g, 1, none⟩ = some (.int .i64 e.fam) ∧ w.cell? ⟨g, 2, none⟩ = some e.vq ∧ w.cell? ⟨g, 3, none⟩ = some (.int .i64 e.ts) ∧ w.cell? ⟨g, 4, none⟩ = some (.int .i64 e.seq) ∧ w.cell? ⟨g, 5, none⟩ = some (.int .i64 e.kind) ∧ w.cell? ⟨g, 6, none⟩ = some e.vv := ⟨h.vr, h.fam, h.vq, h.ts, h.seq, h.kind, h.vv⟩
theorem check_plainD (vr vq vv : Value) : checkS (plainD vr vq vv) = 0 := by simp [checkS, plainD]
def badD (vr vq vv : Value) (seq : Int) : EntD := ⟨vr, 1, vq, 0, seq, 1, vv, [114], [113], [118]⟩
theorem check_badD (vr vq vv : Value) (seq : Int) : checkS (badD vr vq vv seq) = 23 := by simp [checkS, badD]

theorem cmp_plain (a b c x y z : Value) : compareS (plainD a b c) (badD x y z 32) = -1 := by simp [compareS, cmpsS, firstNZ, plainD, badD, ordC_self, cmpI, aheadS]
theorem alike_same {va vb : Value} {xs : List Nat} {w : World} (ha : Rd w va xs) (hb : Rd w vb xs) :
    Calls Try.prog 29 #[va, vb] w fun e w' => e = .returned (.bool true) ∧ Below w.heap.size w w' := by
  have h := alike_any ha hb
  rw [decide_eq_true rfl] at h
  exact h

set_option maxRecDepth 100000 in
set_option maxHeartbeats 4000000 in
theorem told_any (w : World) : Calls Try.prog 18 #[] w fun e w' => e = .returned (.bool true) ∧ Below w.heap.size w w' := by
  go_enter Try.func18, Try.ntmps18
  go_wp2_with fail
  refine (plain_any _).mono ?_
  rintro e w1 ⟨vr1, vq1, vv1, rfl, ok1, B1⟩
  go_wp2_with fail
  refine (key_ok ok1 (check_plainD _ _ _)).mono ?_
  rintro e w2 ⟨a2, m2, c2, rfl, own2, hb2⟩
  rw [keyL_plain] at own2
  obtain rfl : m2 = 26 := own2.1
  have r2 := own2.rd plainK_bys (by decide)
  have B2 := B1.trans (hb2.mono B1.size)
  clear ok1 own2 hb2 B1
  go_wp2_with fail
  refine (parse_plain r2).mono ?_
  rintro e w3 ⟨ar3, mr3, cr3, aq3, mq3, cq3, rfl, hb3⟩
  have B3 := B2.trans (hb3.mono B2.size)
  have r3 := r2.later hb3
  have A3 := (Below.refl w3.heap.size w3).alloc (Nat.le_refl _) (.cells (EntD.cells ⟨.slice ar3 mr3 cr3, 1, .slice aq3 mq3 cq3, 5, 32, 1, .slice none 0 0, [], [], []⟩) 35)
  have bx3 := EBox.new w3 ⟨.slice ar3 mr3 cr3, 1, .slice aq3 mq3 cq3, 5, 32, 1, .slice none 0 0, [], [], []⟩
  have HX3 : Hid (_ ∧ _) := ⟨bx3, A3⟩
  clear hb3 B2 r2 bx3 A3
  simp only [EntD.cells] at HX3
  go_wp2_with fail
  refine (plain_any _).mono ?_
  rintro e w4 ⟨vr4, vq4, vv4, rfl, ok4, hb4⟩
  have bx4 := HX3.out.1.later hb4
  have hb34 := HX3.out.2.trans (hb4.mono HX3.out.2.size)
  have B4 := B3.trans (hb34.mono B3.size)
  have r4 := r3.later hb34
  have HX4 : Hid (EBox w4 w3.heap.size _) := bx4
  clear HX3 hb4 bx4 hb34 B3 r3
  go_wp2_with fail
  refine (refKey_plain ok4).mono ?_
  rintro e w5 ⟨a5, m5, c5, rfl, own5, hb5⟩
  obtain rfl : m5 = 26 := own5.1
  have k5 := own5.rd plainK_bys (by decide)
  have B5 := B4.trans (hb5.mono B4.size)
  have r5 := r4.later hb5
  have HX5 : Hid (EBox w5 w3.heap.size _) := HX4.out.later hb5
  clear HX4 hb5 B4 r4 own5 ok4
  go_wp2_with fail
  refine (plain_any _).mono ?_
  rintro e w6 ⟨vr6, vq6, vv6, rfl, ok6, hb6⟩
  have B6 := B5.trans (hb6.mono B5.size)
  have r6 := r5.later hb6
  have k6 := k5.later hb6
  have HX6 : Hid (EBox w6 w3.heap.size _) := HX5.out.later hb6
  clear HX5 hb6 B5 r5 k5
  obtain ⟨ar6, mr6, cr6, e1⟩ := rd_slice ok6.1
  obtain ⟨aq6, mq6, cq6, e2⟩ := rd_slice ok6.2.1
  obtain ⟨av6, mv6, cv6, e3⟩ := rd_slice ok6.2.2
  simp only [plainD] at e1 e2 e3
  subst e1 e2 e3
  have okb : EntD.Ok w6 (badD (.slice ar6 mr6 cr6) (.slice aq6 mq6 cq6) (.slice av6 mv6 cv6) 32) := ok6
  have A7 := (Below.refl w6.heap.size w6).alloc (Nat.le_refl _) (.cells (badD (.slice ar6 mr6 cr6) (.slice aq6 mq6 cq6) (.slice av6 mv6 cv6) 32).cells 35)
  have bx7 := EBox.new w6 (badD (.slice ar6 mr6 cr6) (.slice aq6 mq6 cq6) (.slice av6 mv6 cv6) 32)
  have c7 := key_bad (okb.later A7) (by rw [check_badD]; decide)
  rw [check_badD] at c7
  have HX7 : Hid (_ ∧ _ ∧ _) := ⟨bx7, A7, c7⟩
  have HOK : Hid (EntD.Ok w6 _) := ok6
  clear ok6 okb A7 bx7 c7
  simp only [EntD.cells, badD] at HX7
  simp only [plainD, EntD.cells]
  go_wp2_with fail
  refine HX7.out.2.2.mono ?_
  rintro e w8 ⟨rfl, hb8⟩
  have hb68 := HX7.out.2.1.trans (hb8.mono HX7.out.2.1.size)
  have B8 := B6.trans (hb68.mono B6.size)
  have r8 := r6.later hb68
  have k8 := k6.later hb68
  have HX8 : Hid (EBox w8 w3.heap.size _) := HX6.out.later hb68
  have HB8 : Hid (EBox w8 w6.heap.size _) := HX7.out.1.later hb8
  have HOK8 : Hid (EntD.Ok w8 _) := HOK.out.later hb68
  clear HX7 HX6 HOK hb68 hb8 B6 r6 k6
  have okw : EntD.Ok w8 (badD (.slice ar6 mr6 cr6) (.slice aq6 mq6 cq6) (.slice av6 mv6 cv6) (-1)) := HOK8.out
  have A9 := (Below.refl w8.heap.size w8).alloc (Nat.le_refl _) (.cells (badD (.slice ar6 mr6 cr6) (.slice aq6 mq6 cq6) (.slice av6 mv6 cv6) (-1)).cells 35)
  have c9 := check_any (okw.later A9)
  rw [check_badD] at c9
  have HX9 : Hid (_ ∧ _) := ⟨A9, c9⟩
  clear okw A9 c9
  simp only [EntD.cells, badD] at HX9
  obtain ⟨z0, z1, z2, z3, z4, z5, z6⟩ := HB8.out.cells7
  simp only at z0 z1 z2 z3 z4 z5 z6
  go_wp2_with fail
  refine HX9.out.2.mono ?_
  rintro e w9 ⟨rfl, hb9⟩
  have hb89 := HX9.out.1.trans (hb9.mono HX9.out.1.size)
  have B9 := B8.trans (hb89.mono B8.size)
  have r9 : Hid (Rd w9 (.slice a2 26 c2) plainK) := r8.later hb89
  have k9 : Hid (Rd w9 (.slice a5 26 c5) plainK) := k8.later hb89
  have KS : Hid (∀ wx, Below w9.heap.size w9 wx → wx.cell? ⟨w3.heap.size, 3, none⟩ = some (.int .i64 5) ∧ wx.cell? ⟨w6.heap.size, 0, none⟩ = some (.slice ar6 mr6 cr6) ∧ wx.cell? ⟨w6.heap.size, 1, none⟩ = some (.int .i64 1) ∧ wx.cell? ⟨w6.heap.size, 2, none⟩ = some (.slice aq6 mq6 cq6) ∧ wx.cell? ⟨w6.heap.size, 3, none⟩ = some (.int .i64 0) ∧ wx.cell? ⟨w6.heap.size, 4, none⟩ = some (.int .i64 32) ∧ wx.cell? ⟨w6.heap.size, 5, none⟩ = some (.int .i64 1) ∧ wx.cell? ⟨w6.heap.size, 6, none⟩ = some (.slice av6 mv6 cv6)) := fun wx hx => ⟨((HX8.out.later hb89).later hx).ts, ((HB8.out.later hb89).later hx).cells7⟩
  have CC : Hid (∀ wx vr vq vv, Below w9.heap.size w9 wx → EntD.Ok wx (plainD vr vq vv) → Calls Try.prog 20 #[.agg #[vr, .int .i64 1, vq, .int .i64 5, .int .i64 32, .int .i64 1, vv], .agg #[.slice ar6 mr6 cr6, .int .i64 1, .slice aq6 mq6 cq6, .int .i64 0, .int .i64 32, .int .i64 1, .slice av6 mv6 cv6]] wx fun r w' => r = .returned (.int .i64 (-1)) ∧ Below wx.heap.size wx w') := by
    intro wx vr vq vv hx hk
    have h := compare_any hk (show EntD.Ok wx (badD (.slice ar6 mr6 cr6) (.slice aq6 mq6 cq6) (.slice av6 mv6 cv6) 32) from (HOK8.out.later hb89).later hx)
    rw [cmp_plain] at h
    exact h
  clear HX9 hb9 hb89 B8 r8 k8 HX8 HB8 HOK8 z0 z1 z2 z3 z4 z5 z6
  have D0 : Below w9.heap.size w9 w9.drew := (Below.refl _ _).drew
  go_wp2_with fail
  go_region_held3 (fun wx => wx.cell? ⟨w3.heap.size, 3, none⟩ = some (.int .i64 5) ∧ wx.cell? ⟨w6.heap.size, 0, none⟩ = some (.slice ar6 mr6 cr6) ∧ wx.cell? ⟨w6.heap.size, 1, none⟩ = some (.int .i64 1) ∧ wx.cell? ⟨w6.heap.size, 2, none⟩ = some (.slice aq6 mq6 cq6) ∧ wx.cell? ⟨w6.heap.size, 3, none⟩ = some (.int .i64 0) ∧ wx.cell? ⟨w6.heap.size, 4, none⟩ = some (.int .i64 32) ∧ wx.cell? ⟨w6.heap.size, 5, none⟩ = some (.int .i64 1) ∧ wx.cell? ⟨w6.heap.size, 6, none⟩ = some (.slice av6 mv6 cv6)) (first | exact KS.out _ D0 | exact KS.out _ D1 | exact KS.out _ D2 | exact KS.out _ D3)
    (first
      | (go_at_call 29; refine (alike_same (r9.out.later D0) (k9.out.later D0)).mono ?_; rintro e w10 ⟨rfl, hb10⟩; have D1 := D0.trans (hb10.mono D0.size))
      | (go_at_call 55; refine (plain_any _).mono ?_; rintro e w11 ⟨vr11, vq11, vv11, rfl, ok11, hb11⟩; have D2 := D1.trans (hb11.mono D1.size))
      | (go_at_call 20; refine (CC.out _ _ _ _ D2 ok11).mono ?_; rintro e w12 ⟨rfl, hb12⟩; have D3 := D2.trans (hb12.mono D2.size)))
  go_wp2
  go_ret
  exact ⟨rfl, B9.trans (D3.mono B9.size)⟩
end Go.Proofs.Ythpdlclgiggekaa
