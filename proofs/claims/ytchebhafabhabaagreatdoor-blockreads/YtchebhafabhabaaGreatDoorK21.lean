import Derived.Test.YtchebhafabhabaaGreatDoorK20
namespace Go.Proofs.YtchebhafabhabaaGreatDoor
open Go.RowKit
set_option linter.unusedVariables false

set_option maxRecDepth 100000 in
set_option maxHeartbeats 16000000 in
theorem refParse_plain {w : World} {m c : Nat} {a : Option Addr} {bs row qual : List Nat} {p1 p4 E4 p6 p7 E1 E6 E7 ts sq : Nat} (hr : Rd w (.slice a m c) bs) (h47 : bs.length ≤ 140737488355328) (q1 : ordR bs 0 = (row, p1, E1)) (hfm : bs.getD (p1 + 1) 0 ≠ 0) (q4 : ordR bs (p1 + 2) = (qual, p4, E4)) (q6 : fallR bs (p4 + 1) = (ts, p6, E6)) (q7 : fallR bs p6 = (sq, p7, E7)) :
  Calls Tryz.prog 99 #[.slice a m c] w fun e w' => ParsedAs w w' e bs := by
 have hm : m = bs.length := (rd_lens hr).1
 have hl1 := ord_le (Nat.zero_le _) q1
 have HF : Hid (IsKey bs → _) := fun h => parse_plain_facts q1 hfm q4 q6 q7 (.slice none 0 0) (.slice none 0 0) (.slice none 0 0) h
 have HR : Hid (Rd w (.slice a m c) bs) := hr
 have HROW : Hid (Bys row ∧ row.length ≤ bs.length) := by have := ordR_ok bs 0 hr.1; rw [q1] at this; exact this
 have HQUAL : Hid (Bys qual ∧ qual.length ≤ bs.length) := by have := ordR_ok bs (p1 + 2) hr.1; rw [q4] at this; exact this
 have HQ1 := Lib.hid q1
 have HQ4 := Lib.hid q4
 have HQ6 := Lib.hid q6
 have HQ7 := Lib.hid q7
 have HM := Lib.hid hm
 have H47 := Lib.hid h47
 rw [← hm] at hl1
 rw [← hm] at h47
 have A1 : Below w.heap.size w (((w.alloc (.cells #[.slice none 0 0, .int .i64 0, .slice none 0 0, .int .i64 0, .int .i64 0, .int .i64 0, .slice none 0 0] 40)).alloc (.cells #[.slice none 0 0, .int .i64 0, .slice none 0 0, .int .i64 0, .int .i64 0, .int .i64 0, .slice none 0 0] 40)).alloc (.cells #[.slice none 0 0, .int .i64 0, .slice none 0 0, .int .i64 0, .int .i64 0, .int .i64 0, .slice none 0 0] 40)) := (((Below.refl w.heap.size w).alloc (Nat.le_refl _) _).alloc (by simp) _).alloc (by simp; omega) _
 have BG : Hid (EBox (((w.alloc (.cells #[.slice none 0 0, .int .i64 0, .slice none 0 0, .int .i64 0, .int .i64 0, .int .i64 0, .slice none 0 0] 40)).alloc (.cells #[.slice none 0 0, .int .i64 0, .slice none 0 0, .int .i64 0, .int .i64 0, .int .i64 0, .slice none 0 0] 40)).alloc (.cells #[.slice none 0 0, .int .i64 0, .slice none 0 0, .int .i64 0, .int .i64 0, .int .i64 0, .slice none 0 0] 40)) (w.heap.size) ⟨.slice none 0 0, 0, .slice none 0 0, 0, 0, 0, .slice none 0 0, [], [], []⟩) := three_boxes.1 w
 have BN : Hid (EBox (((w.alloc (.cells #[.slice none 0 0, .int .i64 0, .slice none 0 0, .int .i64 0, .int .i64 0, .int .i64 0, .slice none 0 0] 40)).alloc (.cells #[.slice none 0 0, .int .i64 0, .slice none 0 0, .int .i64 0, .int .i64 0, .int .i64 0, .slice none 0 0] 40)).alloc (.cells #[.slice none 0 0, .int .i64 0, .slice none 0 0, .int .i64 0, .int .i64 0, .int .i64 0, .slice none 0 0] 40)) (w.heap.size + 1) ⟨.slice none 0 0, 0, .slice none 0 0, 0, 0, 0, .slice none 0 0, [], [], []⟩) := three_boxes.2.1 w
 have BE : Hid (EBox (((w.alloc (.cells #[.slice none 0 0, .int .i64 0, .slice none 0 0, .int .i64 0, .int .i64 0, .int .i64 0, .slice none 0 0] 40)).alloc (.cells #[.slice none 0 0, .int .i64 0, .slice none 0 0, .int .i64 0, .int .i64 0, .int .i64 0, .slice none 0 0] 40)).alloc (.cells #[.slice none 0 0, .int .i64 0, .slice none 0 0, .int .i64 0, .int .i64 0, .int .i64 0, .slice none 0 0] 40)) (w.heap.size + 1 + 1) ⟨.slice none 0 0, 0, .slice none 0 0, 0, 0, 0, .slice none 0 0, [], [], []⟩) := three_boxes.2.2 w
 clear hr q1 q4 q6 q7 hm
 go_enter Tryz.func99, Tryz.ntmps99
 go_wp2_with fail
 refine (refRO_at (HR.out.later A1) _ 0 rfl (Nat.zero_le _) H47.out HQ1.out).mono ?_
 rintro e1 w1 ⟨ar, mr, cr, rfl, own1, hb1⟩
 have B1 := A1.trans (hb1.mono A1.size)
 have bx2 := BE.out.later hb1
 have hs1 : w.heap.size + 1 + 1 + 1 ≤ w1.heap.size := by have := hb1.size; simpa using this
 have O1 : Hid (Own w1 (w.heap.size + 1 + 1 + 1) (.slice ar mr cr) mr row) := by have := own1; simp at this; exact this
 have BG' := Lib.hid (BG.out.later hb1)
 have BN' := Lib.hid (BN.out.later hb1)
 clear BG BN
 have BG := BG'
 have BN := BN'
 clear BG' BN'
 clear own1 hb1 A1 BE
 (try simp only at bx2)
 by_cases hE1 : E1 = 0
 case neg =>
  have h0 : ((E1 : Int) != 0) = true := by simp; omega
  have h1 : ¬ ((E1 : Int) = 0) := by omega
  have fa := filled_apart (w1) (w.heap.size) ⟨.slice none 0 0, 0, .slice none 0 0, 0, 0, 0, .slice none 0 0, [], [], []⟩
  have fb := filled_box BG.out ⟨.slice none 0 0, 0, .slice none 0 0, 0, 0, 0, .slice none 0 0, [], [], []⟩
  have bw := B1.trans (fa.below (Nat.le_refl _) B1.size)
  obtain ⟨g0, g1, g2, g3, g4, g5, g6⟩ := BG.out.cells7
  obtain ⟨gf0, gf1, gf2, gf3, gf4, gf5, gf6⟩ := BG.out.fz7
  obtain ⟨m0, m1, m2, m3, m4, m5, m6⟩ := BN.out.cells7
  simp only at g0 g1 g2 g3 g4 g5 g6 m0 m1 m2 m3 m4 m5 m6
  have HDN : Hid (_ ∧ _) := ⟨fb, bw⟩
  clear fa fb bw
  simp only [filled] at HDN
  go_wp2
  obtain ⟨fb, bw⟩ := HDN.out
  clear HDN
  generalize ((((((((w1).setCell ⟨w.heap.size, 0, none⟩ (.slice none 0 0)).setCell ⟨w.heap.size, 1, none⟩ (.int .i64 0)).setCell ⟨w.heap.size, 2, none⟩ (.slice none 0 0)).setCell ⟨w.heap.size, 3, none⟩ (.int .i64 0)).setCell ⟨w.heap.size, 4, none⟩ (.int .i64 0)).setCell ⟨w.heap.size, 5, none⟩ (.int .i64 0)).setCell ⟨w.heap.size, 6, none⟩ (.slice none 0 0)) = wz at fb bw ⊢
  obtain ⟨t0, t1, t2, t3, t4, t5, t6⟩ := fb.cells7
  simp only at t0 t1 t2 t3 t4 t5 t6
  (try simp only [Exit.inBlock, Exit.then])
  refine bodyPost_ret (v := .tuple #[.agg #[.slice none 0 0, .int .i64 0, .slice none 0 0, .int .i64 0, .int .i64 0, .int .i64 0, .slice none 0 0], .int .i64 27]) ?hres rfl ?_
  case hres => simp [results, Tryz.results99, go_sem, t0, t1, t2, t3, t4, t5, t6]
  exact ⟨bw, .inr ⟨fun h => by have := HF.out h; omega, rfl⟩⟩
 subst hE1
 by_cases hp : p1 + 2 ≤ m
 case neg =>
  have hp2 : (m : Int) < (p1 : Int) + 2 := by omega
  have hp3 : ¬ ((p1 : Int) + 2 ≤ (m : Int)) := by omega
  have fa := filled_apart (w1) (w.heap.size) ⟨.slice none 0 0, 0, .slice none 0 0, 0, 0, 0, .slice none 0 0, [], [], []⟩
  have fb := filled_box BG.out ⟨.slice none 0 0, 0, .slice none 0 0, 0, 0, 0, .slice none 0 0, [], [], []⟩
  have bw := B1.trans (fa.below (Nat.le_refl _) B1.size)
  obtain ⟨g0, g1, g2, g3, g4, g5, g6⟩ := BG.out.cells7
  obtain ⟨gf0, gf1, gf2, gf3, gf4, gf5, gf6⟩ := BG.out.fz7
  obtain ⟨m0, m1, m2, m3, m4, m5, m6⟩ := BN.out.cells7
  simp only at g0 g1 g2 g3 g4 g5 g6 m0 m1 m2 m3 m4 m5 m6
  have HDN : Hid (_ ∧ _) := ⟨fb, bw⟩
  clear fa fb bw
  simp only [filled] at HDN
  go_wp2
  obtain ⟨fb, bw⟩ := HDN.out
  clear HDN
  generalize ((((((((w1).setCell ⟨w.heap.size, 0, none⟩ (.slice none 0 0)).setCell ⟨w.heap.size, 1, none⟩ (.int .i64 0)).setCell ⟨w.heap.size, 2, none⟩ (.slice none 0 0)).setCell ⟨w.heap.size, 3, none⟩ (.int .i64 0)).setCell ⟨w.heap.size, 4, none⟩ (.int .i64 0)).setCell ⟨w.heap.size, 5, none⟩ (.int .i64 0)).setCell ⟨w.heap.size, 6, none⟩ (.slice none 0 0)) = wz at fb bw ⊢
  obtain ⟨t0, t1, t2, t3, t4, t5, t6⟩ := fb.cells7
  simp only at t0 t1 t2 t3 t4 t5 t6
  (try simp only [Exit.inBlock, Exit.then])
  refine bodyPost_ret (v := .tuple #[.agg #[.slice none 0 0, .int .i64 0, .slice none 0 0, .int .i64 0, .int .i64 0, .int .i64 0, .slice none 0 0], .int .i64 27]) ?hres rfl ?_
  case hres => simp [results, Tryz.results99, go_sem, t0, t1, t2, t3, t4, t5, t6]
  exact ⟨bw, .inr ⟨fun h => by have := HF.out h; have := HM.out; omega, rfl⟩⟩
 have hp2 : (p1 : Int) + 2 ≤ (m : Int) := by omega
 have hp0 : (0 : Int) ≤ (p1 : Int) := by omega
 have hp1 : (p1 : Int) < (m : Int) := by omega
 have hp4 : (p1 : Int) + 1 < (m : Int) := by omega
 obtain ⟨fam, hfam⟩ : ∃ x, x = bs.getD p1 0 := ⟨_, rfl⟩
 obtain ⟨fm, hfmd⟩ : ∃ x, x = bs.getD (p1 + 1) 0 := ⟨_, rfl⟩
 rw [← hfmd] at hfm
 rcases rd_some HR.out with ⟨_, h0, _⟩ | ⟨bb, off, rfl⟩
 ·omega
 have f0 := bx2.fz 0
 have c0 := bx2.vr
 have bx3 := bx2.set0 (.slice ar mr cr) row
 have BW1 := B1.setCell (p := ⟨w.heap.size + 1 + 1, 0, none⟩) (show w.heap.size ≤ w.heap.size + 1 + 1 by omega) (.slice ar mr cr)
 have f1 := bx3.fz 1
 have c1 := bx3.fam
 have bx4 := bx3.set1 (fam : Int)
 have BW2 := BW1.setCell (p := ⟨w.heap.size + 1 + 1, 1, none⟩) (show w.heap.size ≤ w.heap.size + 1 + 1 by omega) (.int .i64 (fam : Int))
 obtain ⟨ca, cal⟩ := rd_cell (HR.out.later BW1) p1 (by omega)
 obtain ⟨cb, cbl⟩ := rd_cell (HR.out.later BW2) (p1 + 1) (by omega)
 rw [← hfam] at ca cal
 rw [← hfmd] at cb cbl
 have BX4 := Lib.hid bx4
 have HFAM := Lib.hid hfam
 have OW2 : Hid (Own (((w1).setCell ⟨w.heap.size + 1 + 1, 0, none⟩ (.slice ar mr cr)).setCell ⟨w.heap.size + 1 + 1, 1, none⟩ (.int .i64 (fam : Int))) (w.heap.size + 1 + 1 + 1) (.slice ar mr cr) mr row) := (O1.out.put (by omega)).put (by omega)
 have BG' := Lib.hid (BG.out.apart (apart_set (w1) (w.heap.size + 1 + 1) 0 (.slice ar mr cr)) (by omega))
 have BN' := Lib.hid (BN.out.apart (apart_set (w1) (w.heap.size + 1 + 1) 0 (.slice ar mr cr)) (by omega))
 clear BG BN
 have BG := BG'
 have BN := BN'
 clear BG' BN'
 have BG' := Lib.hid (BG.out.apart (apart_set ((w1).setCell ⟨w.heap.size + 1 + 1, 0, none⟩ (.slice ar mr cr)) (w.heap.size + 1 + 1) 1 (.int .i64 (fam : Int))) (by omega))
 have BN' := Lib.hid (BN.out.apart (apart_set ((w1).setCell ⟨w.heap.size + 1 + 1, 0, none⟩ (.slice ar mr cr)) (w.heap.size + 1 + 1) 1 (.int .i64 (fam : Int))) (by omega))
 clear BG BN
 have BG := BG'
 have BN := BN'
 clear BG' BN'
 simp only at c0 c1
 clear bx2 bx3 bx4 O1 BW1 hfam hfmd B1
 have hfz : ((fm : Int) != 0) = true := by simp; omega
 have hfy : ((fm : Int) == 0) = false := by simp; omega
 go_wp2_with fail
 refine (refRO_at (HR.out.later BW2) _ (p1 + 2) (by first | rfl | omega | simp) (by have := HM.out; omega) H47.out HQ4.out).mono ?_
 rintro e4 w3 ⟨aq, mq, cq, rfl, own3, hb3⟩
 have B3 := BW2.trans (hb3.mono BW2.size)
 have bx5 := BX4.out.later hb3
 have hl4 : p4 ≤ m := by have := ord_le (by have := HM.out; omega) HQ4.out; have := HM.out; omega
 have f2 := bx5.fz 2
 have c2 := bx5.vq
 have bx6 := bx5.set2 (.slice aq mq cq) qual
 have BW3 := B3.setCell (p := ⟨w.heap.size + 1 + 1, 2, none⟩) (show w.heap.size ≤ w.heap.size + 1 + 1 by omega) (.slice aq mq cq)
 have hs2 : w1.heap.size ≤ w3.heap.size := by have := hb3.size; simpa using this
 have OW3 : Hid (Own ((w3).setCell ⟨w.heap.size + 1 + 1, 2, none⟩ (.slice aq mq cq)) (w.heap.size + 1 + 1 + 1) (.slice ar mr cr) mr row ∧ Own ((w3).setCell ⟨w.heap.size + 1 + 1, 2, none⟩ (.slice aq mq cq)) w1.heap.size (.slice aq mq cq) mq qual ∧ ∀ k, (Value.slice ar mr cr).ownBlock = some k → k < w1.heap.size) := ⟨(OW2.out.later hb3).put (by omega), (by have := own3; simp at this; exact this : Own w3 w1.heap.size (.slice aq mq cq) mq qual).put (by omega), fun k hk => by have := (OW2.out.2.lt k hk).2; simpa using this⟩
 have BG' := Lib.hid (BG.out.later hb3)
 have BN' := Lib.hid (BN.out.later hb3)
 clear BG BN
 have BG := BG'
 have BN := BN'
 clear BG' BN'
 have BG' := Lib.hid (BG.out.apart (apart_set (w3) (w.heap.size + 1 + 1) 2 (.slice aq mq cq)) (by omega))
 have BN' := Lib.hid (BN.out.apart (apart_set (w3) (w.heap.size + 1 + 1) 2 (.slice aq mq cq)) (by omega))
 clear BG BN
 have BG := BG'
 have BN := BN'
 clear BG' BN'
 simp only at c2
 have BX6 := Lib.hid bx6
 clear own3 hb3 bx5 bx6 BX4 OW2 BW2 ca cb c0 c1 f0 f1 B3
 by_cases hE4 : E4 = 0
 case neg =>
  have h0 : ((E4 : Int) != 0) = true := by simp; omega
  have h1 : ¬ ((E4 : Int) = 0) := by omega
  have fa := filled_apart ((w3).setCell ⟨w.heap.size + 1 + 1, 2, none⟩ (.slice aq mq cq)) (w.heap.size) ⟨.slice none 0 0, 0, .slice none 0 0, 0, 0, 0, .slice none 0 0, [], [], []⟩
  have fb := filled_box BG.out ⟨.slice none 0 0, 0, .slice none 0 0, 0, 0, 0, .slice none 0 0, [], [], []⟩
  have bw := BW3.trans (fa.below (Nat.le_refl _) BW3.size)
  obtain ⟨g0, g1, g2, g3, g4, g5, g6⟩ := BG.out.cells7
  obtain ⟨gf0, gf1, gf2, gf3, gf4, gf5, gf6⟩ := BG.out.fz7
  obtain ⟨m0, m1, m2, m3, m4, m5, m6⟩ := BN.out.cells7
  simp only at g0 g1 g2 g3 g4 g5 g6 m0 m1 m2 m3 m4 m5 m6
  have HDN : Hid (_ ∧ _) := ⟨fb, bw⟩
  clear fa fb bw
  simp only [filled] at HDN
  go_wp2
  obtain ⟨fb, bw⟩ := HDN.out
  clear HDN
  generalize (((((((((w3).setCell ⟨w.heap.size + 1 + 1, 2, none⟩ (.slice aq mq cq)).setCell ⟨w.heap.size, 0, none⟩ (.slice none 0 0)).setCell ⟨w.heap.size, 1, none⟩ (.int .i64 0)).setCell ⟨w.heap.size, 2, none⟩ (.slice none 0 0)).setCell ⟨w.heap.size, 3, none⟩ (.int .i64 0)).setCell ⟨w.heap.size, 4, none⟩ (.int .i64 0)).setCell ⟨w.heap.size, 5, none⟩ (.int .i64 0)).setCell ⟨w.heap.size, 6, none⟩ (.slice none 0 0)) = wz at fb bw ⊢
  obtain ⟨t0, t1, t2, t3, t4, t5, t6⟩ := fb.cells7
  simp only at t0 t1 t2 t3 t4 t5 t6
  (try simp only [Exit.inBlock, Exit.then])
  refine bodyPost_ret (v := .tuple #[.agg #[.slice none 0 0, .int .i64 0, .slice none 0 0, .int .i64 0, .int .i64 0, .int .i64 0, .slice none 0 0], .int .i64 27]) ?hres rfl ?_
  case hres => simp [results, Tryz.results99, go_sem, t0, t1, t2, t3, t4, t5, t6]
  exact ⟨bw, .inr ⟨fun h => by have := HF.out h; omega, rfl⟩⟩
 subst hE4
 by_cases hq : p4 + 1 ≤ m
 case neg =>
  have hq2 : (m : Int) < (p4 : Int) + 1 := by omega
  have hq3 : ¬ ((p4 : Int) + 1 ≤ (m : Int)) := by omega
  have fa := filled_apart ((w3).setCell ⟨w.heap.size + 1 + 1, 2, none⟩ (.slice aq mq cq)) (w.heap.size) ⟨.slice none 0 0, 0, .slice none 0 0, 0, 0, 0, .slice none 0 0, [], [], []⟩
  have fb := filled_box BG.out ⟨.slice none 0 0, 0, .slice none 0 0, 0, 0, 0, .slice none 0 0, [], [], []⟩
  have bw := BW3.trans (fa.below (Nat.le_refl _) BW3.size)
  obtain ⟨g0, g1, g2, g3, g4, g5, g6⟩ := BG.out.cells7
  obtain ⟨gf0, gf1, gf2, gf3, gf4, gf5, gf6⟩ := BG.out.fz7
  obtain ⟨m0, m1, m2, m3, m4, m5, m6⟩ := BN.out.cells7
  simp only at g0 g1 g2 g3 g4 g5 g6 m0 m1 m2 m3 m4 m5 m6
  have HDN : Hid (_ ∧ _) := ⟨fb, bw⟩
  clear fa fb bw
  simp only [filled] at HDN
  go_wp2
  obtain ⟨fb, bw⟩ := HDN.out
  clear HDN
  generalize (((((((((w3).setCell ⟨w.heap.size + 1 + 1, 2, none⟩ (.slice aq mq cq)).setCell ⟨w.heap.size, 0, none⟩ (.slice none 0 0)).setCell ⟨w.heap.size, 1, none⟩ (.int .i64 0)).setCell ⟨w.heap.size, 2, none⟩ (.slice none 0 0)).setCell ⟨w.heap.size, 3, none⟩ (.int .i64 0)).setCell ⟨w.heap.size, 4, none⟩ (.int .i64 0)).setCell ⟨w.heap.size, 5, none⟩ (.int .i64 0)).setCell ⟨w.heap.size, 6, none⟩ (.slice none 0 0)) = wz at fb bw ⊢
  obtain ⟨t0, t1, t2, t3, t4, t5, t6⟩ := fb.cells7
  simp only at t0 t1 t2 t3 t4 t5 t6
  (try simp only [Exit.inBlock, Exit.then])
  refine bodyPost_ret (v := .tuple #[.agg #[.slice none 0 0, .int .i64 0, .slice none 0 0, .int .i64 0, .int .i64 0, .int .i64 0, .slice none 0 0], .int .i64 27]) ?hres rfl ?_
  case hres => simp [results, Tryz.results99, go_sem, t0, t1, t2, t3, t4, t5, t6]
  exact ⟨bw, .inr ⟨fun h => by have := HF.out h; have := HM.out; omega, rfl⟩⟩
 have hq2 : (p4 : Int) + 1 ≤ (m : Int) := by omega
 have hq0 : (0 : Int) ≤ (p4 : Int) := by omega
 go_wp2_with fail
 refine (refRF_b (HR.out.later BW3) _ (p4 + 1) (by first | rfl | omega | simp) (by have := HM.out; omega) HQ6.out).mono ?_
 rintro e6 w6 ⟨rfl, hb6⟩
 have B6 := BW3.trans (hb6.mono BW3.size)
 have hl6 : p6 ≤ m := by have := fall_le (by have := HM.out; omega) HQ6.out; have := HM.out; omega
 have bx6b := BX6.out.later hb6
 have f3 := bx6b.fz 3
 have c3 := bx6b.ts
 have bx7 := bx6b.set3 (ts : Int)
 have BW4 := B6.setCell (p := ⟨w.heap.size + 1 + 1, 3, none⟩) (show w.heap.size ≤ w.heap.size + 1 + 1 by omega) (.int .i64 (ts : Int))
 have OW4 : Hid (Own ((w6).setCell ⟨w.heap.size + 1 + 1, 3, none⟩ (.int .i64 (ts : Int))) (w.heap.size + 1 + 1 + 1) (.slice ar mr cr) mr row ∧ Own ((w6).setCell ⟨w.heap.size + 1 + 1, 3, none⟩ (.int .i64 (ts : Int))) w1.heap.size (.slice aq mq cq) mq qual ∧ ∀ k, (Value.slice ar mr cr).ownBlock = some k → k < w1.heap.size) := ⟨(OW3.out.1.later hb6).put (by omega), (OW3.out.2.1.later hb6).put (by omega), OW3.out.2.2⟩
 have BG' := Lib.hid (BG.out.later hb6)
 have BN' := Lib.hid (BN.out.later hb6)
 clear BG BN
 have BG := BG'
 have BN := BN'
 clear BG' BN'
 have BG' := Lib.hid (BG.out.apart (apart_set (w6) (w.heap.size + 1 + 1) 3 (.int .i64 (ts : Int))) (by omega))
 have BN' := Lib.hid (BN.out.apart (apart_set (w6) (w.heap.size + 1 + 1) 3 (.int .i64 (ts : Int))) (by omega))
 clear BG BN
 have BG := BG'
 have BN := BN'
 clear BG' BN'
 simp only at c3
 have BX7 := Lib.hid bx7
 clear bx7 bx6b hb6 B6 OW3 BX6 BW3 c2 f2
 by_cases hE6 : E6 = 0
 case neg =>
  have h0 : ((E6 : Int) != 0) = true := by simp; omega
  have h1 : ¬ ((E6 : Int) = 0) := by omega
  have fa := filled_apart ((w6).setCell ⟨w.heap.size + 1 + 1, 3, none⟩ (.int .i64 (ts : Int))) (w.heap.size) ⟨.slice none 0 0, 0, .slice none 0 0, 0, 0, 0, .slice none 0 0, [], [], []⟩
  have fb := filled_box BG.out ⟨.slice none 0 0, 0, .slice none 0 0, 0, 0, 0, .slice none 0 0, [], [], []⟩
  have bw := BW4.trans (fa.below (Nat.le_refl _) BW4.size)
  obtain ⟨g0, g1, g2, g3, g4, g5, g6⟩ := BG.out.cells7
  obtain ⟨gf0, gf1, gf2, gf3, gf4, gf5, gf6⟩ := BG.out.fz7
  obtain ⟨m0, m1, m2, m3, m4, m5, m6⟩ := BN.out.cells7
  simp only at g0 g1 g2 g3 g4 g5 g6 m0 m1 m2 m3 m4 m5 m6
  have HDN : Hid (_ ∧ _) := ⟨fb, bw⟩
  clear fa fb bw
  simp only [filled] at HDN
  go_wp2
  obtain ⟨fb, bw⟩ := HDN.out
  clear HDN
  generalize (((((((((w6).setCell ⟨w.heap.size + 1 + 1, 3, none⟩ (.int .i64 (ts : Int))).setCell ⟨w.heap.size, 0, none⟩ (.slice none 0 0)).setCell ⟨w.heap.size, 1, none⟩ (.int .i64 0)).setCell ⟨w.heap.size, 2, none⟩ (.slice none 0 0)).setCell ⟨w.heap.size, 3, none⟩ (.int .i64 0)).setCell ⟨w.heap.size, 4, none⟩ (.int .i64 0)).setCell ⟨w.heap.size, 5, none⟩ (.int .i64 0)).setCell ⟨w.heap.size, 6, none⟩ (.slice none 0 0)) = wz at fb bw ⊢
  obtain ⟨t0, t1, t2, t3, t4, t5, t6⟩ := fb.cells7
  simp only at t0 t1 t2 t3 t4 t5 t6
  (try simp only [Exit.inBlock, Exit.then])
  refine bodyPost_ret (v := .tuple #[.agg #[.slice none 0 0, .int .i64 0, .slice none 0 0, .int .i64 0, .int .i64 0, .int .i64 0, .slice none 0 0], .int .i64 27]) ?hres rfl ?_
  case hres => simp [results, Tryz.results99, go_sem, t0, t1, t2, t3, t4, t5, t6]
  exact ⟨bw, .inr ⟨fun h => by have := HF.out h; omega, rfl⟩⟩
 subst hE6
 go_wp2_with fail
 refine (refRF_b (HR.out.later BW4) _ p6 (by first | rfl | omega | simp) (by have := HM.out; omega) HQ7.out).mono ?_
 rintro e7 w7 ⟨rfl, hb7⟩
 have B7 := BW4.trans (hb7.mono BW4.size)
 have hl7 : p7 ≤ m := by have := fall_le (by have := HM.out; omega) HQ7.out; have := HM.out; omega
 have bx7b := BX7.out.later hb7
 have f4 := bx7b.fz 4
 have c4 := bx7b.seq
 have bx8 := bx7b.set4 (sq : Int)
 have BW5 := B7.setCell (p := ⟨w.heap.size + 1 + 1, 4, none⟩) (show w.heap.size ≤ w.heap.size + 1 + 1 by omega) (.int .i64 (sq : Int))
 have OW5 : Hid (Own ((w7).setCell ⟨w.heap.size + 1 + 1, 4, none⟩ (.int .i64 (sq : Int))) (w.heap.size + 1 + 1 + 1) (.slice ar mr cr) mr row ∧ Own ((w7).setCell ⟨w.heap.size + 1 + 1, 4, none⟩ (.int .i64 (sq : Int))) w1.heap.size (.slice aq mq cq) mq qual ∧ ∀ k, (Value.slice ar mr cr).ownBlock = some k → k < w1.heap.size) := ⟨(OW4.out.1.later hb7).put (by omega), (OW4.out.2.1.later hb7).put (by omega), OW4.out.2.2⟩
 have BG' := Lib.hid (BG.out.later hb7)
 have BN' := Lib.hid (BN.out.later hb7)
 clear BG BN
 have BG := BG'
 have BN := BN'
 clear BG' BN'
 have BG' := Lib.hid (BG.out.apart (apart_set (w7) (w.heap.size + 1 + 1) 4 (.int .i64 (sq : Int))) (by omega))
 have BN' := Lib.hid (BN.out.apart (apart_set (w7) (w.heap.size + 1 + 1) 4 (.int .i64 (sq : Int))) (by omega))
 clear BG BN
 have BG := BG'
 have BN := BN'
 clear BG' BN'
 simp only at c4
 have BX8 := Lib.hid bx8
 clear bx8 bx7b hb7 B7 OW4 BX7 BW4 c3 f3
 by_cases hE7 : E7 = 0
 case neg =>
  have h0 : ((E7 : Int) != 0) = true := by simp; omega
  have h1 : ¬ ((E7 : Int) = 0) := by omega
  have fa := filled_apart ((w7).setCell ⟨w.heap.size + 1 + 1, 4, none⟩ (.int .i64 (sq : Int))) (w.heap.size) ⟨.slice none 0 0, 0, .slice none 0 0, 0, 0, 0, .slice none 0 0, [], [], []⟩
  have fb := filled_box BG.out ⟨.slice none 0 0, 0, .slice none 0 0, 0, 0, 0, .slice none 0 0, [], [], []⟩
  have bw := BW5.trans (fa.below (Nat.le_refl _) BW5.size)
  obtain ⟨g0, g1, g2, g3, g4, g5, g6⟩ := BG.out.cells7
  obtain ⟨gf0, gf1, gf2, gf3, gf4, gf5, gf6⟩ := BG.out.fz7
  obtain ⟨m0, m1, m2, m3, m4, m5, m6⟩ := BN.out.cells7
  simp only at g0 g1 g2 g3 g4 g5 g6 m0 m1 m2 m3 m4 m5 m6
  have HDN : Hid (_ ∧ _) := ⟨fb, bw⟩
  clear fa fb bw
  simp only [filled] at HDN
  go_wp2
  obtain ⟨fb, bw⟩ := HDN.out
  clear HDN
  generalize (((((((((w7).setCell ⟨w.heap.size + 1 + 1, 4, none⟩ (.int .i64 (sq : Int))).setCell ⟨w.heap.size, 0, none⟩ (.slice none 0 0)).setCell ⟨w.heap.size, 1, none⟩ (.int .i64 0)).setCell ⟨w.heap.size, 2, none⟩ (.slice none 0 0)).setCell ⟨w.heap.size, 3, none⟩ (.int .i64 0)).setCell ⟨w.heap.size, 4, none⟩ (.int .i64 0)).setCell ⟨w.heap.size, 5, none⟩ (.int .i64 0)).setCell ⟨w.heap.size, 6, none⟩ (.slice none 0 0)) = wz at fb bw ⊢
  obtain ⟨t0, t1, t2, t3, t4, t5, t6⟩ := fb.cells7
  simp only at t0 t1 t2 t3 t4 t5 t6
  (try simp only [Exit.inBlock, Exit.then])
  refine bodyPost_ret (v := .tuple #[.agg #[.slice none 0 0, .int .i64 0, .slice none 0 0, .int .i64 0, .int .i64 0, .int .i64 0, .slice none 0 0], .int .i64 27]) ?hres rfl ?_
  case hres => simp [results, Tryz.results99, go_sem, t0, t1, t2, t3, t4, t5, t6]
  exact ⟨bw, .inr ⟨fun h => by have := HF.out h; omega, rfl⟩⟩
 subst hE7
 by_cases hz : p7 + 1 = m
 case neg =>
  have hz2 : (((p7 : Int) + 1) != (m : Int)) = true := by simp; omega
  have hz3 : ¬ ((p7 : Int) + 1 = (m : Int)) := by omega
  have fa := filled_apart ((w7).setCell ⟨w.heap.size + 1 + 1, 4, none⟩ (.int .i64 (sq : Int))) (w.heap.size) ⟨.slice none 0 0, 0, .slice none 0 0, 0, 0, 0, .slice none 0 0, [], [], []⟩
  have fb := filled_box BG.out ⟨.slice none 0 0, 0, .slice none 0 0, 0, 0, 0, .slice none 0 0, [], [], []⟩
  have bw := BW5.trans (fa.below (Nat.le_refl _) BW5.size)
  obtain ⟨g0, g1, g2, g3, g4, g5, g6⟩ := BG.out.cells7
  obtain ⟨gf0, gf1, gf2, gf3, gf4, gf5, gf6⟩ := BG.out.fz7
  obtain ⟨m0, m1, m2, m3, m4, m5, m6⟩ := BN.out.cells7
  simp only at g0 g1 g2 g3 g4 g5 g6 m0 m1 m2 m3 m4 m5 m6
  have HDN : Hid (_ ∧ _) := ⟨fb, bw⟩
  clear fa fb bw
  simp only [filled] at HDN
  go_wp2
  obtain ⟨fb, bw⟩ := HDN.out
  clear HDN
  generalize (((((((((w7).setCell ⟨w.heap.size + 1 + 1, 4, none⟩ (.int .i64 (sq : Int))).setCell ⟨w.heap.size, 0, none⟩ (.slice none 0 0)).setCell ⟨w.heap.size, 1, none⟩ (.int .i64 0)).setCell ⟨w.heap.size, 2, none⟩ (.slice none 0 0)).setCell ⟨w.heap.size, 3, none⟩ (.int .i64 0)).setCell ⟨w.heap.size, 4, none⟩ (.int .i64 0)).setCell ⟨w.heap.size, 5, none⟩ (.int .i64 0)).setCell ⟨w.heap.size, 6, none⟩ (.slice none 0 0)) = wz at fb bw ⊢
  obtain ⟨t0, t1, t2, t3, t4, t5, t6⟩ := fb.cells7
  simp only at t0 t1 t2 t3 t4 t5 t6
  (try simp only [Exit.inBlock, Exit.then])
  refine bodyPost_ret (v := .tuple #[.agg #[.slice none 0 0, .int .i64 0, .slice none 0 0, .int .i64 0, .int .i64 0, .int .i64 0, .slice none 0 0], .int .i64 27]) ?hres rfl ?_
  case hres => simp [results, Tryz.results99, go_sem, t0, t1, t2, t3, t4, t5, t6]
  exact ⟨bw, .inr ⟨fun h => by have := HF.out h; have := HM.out; omega, rfl⟩⟩
 have hz2 : (((p7 : Int) + 1) != (m : Int)) = false := by simp; omega
 have hz3 : (p7 : Int) + 1 = (m : Int) := by omega
 have hz4 : (p7 : Int) < (m : Int) := by omega
 have hz5 : (0 : Int) ≤ (p7 : Int) := by omega
 obtain ⟨kd, hkd⟩ : ∃ x, x = bs.getD p7 0 := ⟨_, rfl⟩
 obtain ⟨ck, ckl⟩ := rd_cell (HR.out.later BW5) p7 (by omega)
 rw [← hkd] at ck ckl
 have f5 := BX8.out.fz 5
 have c5 := BX8.out.kind
 have bx9 := BX8.out.set5 (kd : Int)
 have BW6 := BW5.setCell (p := ⟨w.heap.size + 1 + 1, 5, none⟩) (show w.heap.size ≤ w.heap.size + 1 + 1 by omega) (.int .i64 (kd : Int))
 have BG' := Lib.hid (BG.out.apart (apart_set ((w7).setCell ⟨w.heap.size + 1 + 1, 4, none⟩ (.int .i64 (sq : Int))) (w.heap.size + 1 + 1) 5 (.int .i64 (kd : Int))) (by omega))
 have BN' := Lib.hid (BN.out.apart (apart_set ((w7).setCell ⟨w.heap.size + 1 + 1, 4, none⟩ (.int .i64 (sq : Int))) (w.heap.size + 1 + 1) 5 (.int .i64 (kd : Int))) (by omega))
 clear BG BN
 have BG := BG'
 have BN := BN'
 clear BG' BN'
 obtain ⟨y0, y1, y2, y3, y4, y5, y6⟩ := bx9.cells7
 simp only at c5 y0 y1 y2 y3 y4 y5 y6
 have BX9 := Lib.hid bx9
 have HKD := Lib.hid hkd
 obtain ⟨X, hX⟩ : ∃ X : EntD, X = ⟨.slice ar mr cr, (fam : Int), .slice aq mq cq, (ts : Int), (sq : Int), (kd : Int), .slice none 0 0, row, qual, []⟩ := ⟨_, rfl⟩
 have HX := Lib.hid hX
 have OWX : Hid (Own (((w7).setCell ⟨w.heap.size + 1 + 1, 4, none⟩ (.int .i64 (sq : Int))).setCell ⟨w.heap.size + 1 + 1, 5, none⟩ (.int .i64 (kd : Int))) (w.heap.size + 1 + 1 + 1) (.slice ar mr cr) mr row ∧ Own (((w7).setCell ⟨w.heap.size + 1 + 1, 4, none⟩ (.int .i64 (sq : Int))).setCell ⟨w.heap.size + 1 + 1, 5, none⟩ (.int .i64 (kd : Int))) w1.heap.size (.slice aq mq cq) mq qual ∧ ∀ k, (Value.slice ar mr cr).ownBlock = some k → k < w1.heap.size) := ⟨(OW5.out.1.put (by omega)), (OW5.out.2.1.put (by omega)), OW5.out.2.2⟩
 have OKX : Hid (EntD.Ok (((w7).setCell ⟨w.heap.size + 1 + 1, 4, none⟩ (.int .i64 (sq : Int))).setCell ⟨w.heap.size + 1 + 1, 5, none⟩ (.int .i64 (kd : Int))) X) := by
  unfold Hid
  rw [HX.out]
  exact ⟨OWX.out.1.rd HROW.out.1 (by rw [OWX.out.1.1]; have := HROW.out.2; have := H47.out; omega), OWX.out.2.1.rd HQUAL.out.1 (by rw [OWX.out.2.1.1]; have := HQUAL.out.2; have := H47.out; omega), Rd.nil _⟩
 have HKC : Hid (Calls _ _ _ _ _) := refKey_all OKX.out
 have eX : X.cells = #[.slice ar mr cr, .int .i64 (fam : Int), .slice aq mq cq, .int .i64 (ts : Int), .int .i64 (sq : Int), .int .i64 (kd : Int), .slice none 0 0] := by rw [hX]; rfl
 rw [eX] at HKC
 have HIF : Hid ((IsKey bs → checkS X = 0 ∧ keyL X = bs) ∧ (checkS X = 0 → keyL X = bs → IsKey bs)) := by
  refine ⟨fun h => ?_, fun h1 h2 => ⟨X, h1, by rw [HX.out], h2⟩⟩
  have k := (HF.out h).2.2.2.2.2.2.2
  rw [HX.out, HFAM.out, HKD.out]
  exact k
 clear hX hkd bx9 eX OW5 BX8 hfm
 go_wp2_with fail
 refine HKC.out.mono ?_
 rintro e9 w9 ⟨an, mn, cn, rfl, own9, hb9⟩
 have B9 := BW6.trans (hb9.mono BW6.size)
 have BG' := Lib.hid (BG.out.later hb9)
 have BN' := Lib.hid (BN.out.later hb9)
 clear BG BN
 have BG := BG'
 have BN := BN'
 clear BG' BN'
 obtain ⟨C, hC⟩ : ∃ C, C = checkS X := ⟨_, rfl⟩
 rw [← hC]
 have HC := Lib.hid hC
 clear hC
 by_cases hC0 : C = 0
 case neg =>
  have h0 : ((C : Int) != 0) = true := by simp; omega
  have h1 : ¬ ((C : Int) = 0) := by omega
  have fa := filled_apart (w9) (w.heap.size) ⟨.slice none 0 0, 0, .slice none 0 0, 0, 0, 0, .slice none 0 0, [], [], []⟩
  have fb := filled_box BG.out ⟨.slice none 0 0, 0, .slice none 0 0, 0, 0, 0, .slice none 0 0, [], [], []⟩
  have bw := B9.trans (fa.below (Nat.le_refl _) B9.size)
  obtain ⟨g0, g1, g2, g3, g4, g5, g6⟩ := BG.out.cells7
  obtain ⟨gf0, gf1, gf2, gf3, gf4, gf5, gf6⟩ := BG.out.fz7
  obtain ⟨m0, m1, m2, m3, m4, m5, m6⟩ := BN.out.cells7
  simp only at g0 g1 g2 g3 g4 g5 g6 m0 m1 m2 m3 m4 m5 m6
  have HDN : Hid (_ ∧ _) := ⟨fb, bw⟩
  clear fa fb bw
  simp only [filled] at HDN
  go_wp2
  obtain ⟨fb, bw⟩ := HDN.out
  clear HDN
  generalize ((((((((w9).setCell ⟨w.heap.size, 0, none⟩ (.slice none 0 0)).setCell ⟨w.heap.size, 1, none⟩ (.int .i64 0)).setCell ⟨w.heap.size, 2, none⟩ (.slice none 0 0)).setCell ⟨w.heap.size, 3, none⟩ (.int .i64 0)).setCell ⟨w.heap.size, 4, none⟩ (.int .i64 0)).setCell ⟨w.heap.size, 5, none⟩ (.int .i64 0)).setCell ⟨w.heap.size, 6, none⟩ (.slice none 0 0)) = wz at fb bw ⊢
  obtain ⟨t0, t1, t2, t3, t4, t5, t6⟩ := fb.cells7
  simp only at t0 t1 t2 t3 t4 t5 t6
  (try simp only [Exit.inBlock, Exit.then])
  refine bodyPost_ret (v := .tuple #[.agg #[.slice none 0 0, .int .i64 0, .slice none 0 0, .int .i64 0, .int .i64 0, .int .i64 0, .slice none 0 0], .int .i64 27]) ?hres rfl ?_
  case hres => simp [results, Tryz.results99, go_sem, t0, t1, t2, t3, t4, t5, t6]
  exact ⟨bw, .inr ⟨fun h => by have := (HIF.out.1 h).1; have := HC.out; omega, rfl⟩⟩
 subst hC0
 have hKA : keyA X = keyL X := by unfold keyA; rw [if_pos HC.out.symm]
 rw [hKA] at own9
 have r9 := own9.rd (keyL_bys (by rw [HX.out]; exact HROW.out.1) (by rw [HX.out]; exact HQUAL.out.1) HC.out.symm) (by rw [own9.1]; have := keyL_len HC.out.symm; omega)
 have BX10 := Lib.hid (BX9.out.later hb9)
 have HRB := Lib.hid (HR.out.later B9)
 have OWZ := Lib.hid (And.intro (OWX.out.1.later hb9) (OWX.out.2.1.later hb9))
 clear own9 hb9 y0 y1 y2 y3 y4 y5 y6 hKA BX9 BW6 BW5
 by_cases hY : keyL X = bs
 ·have hd : decide (keyL X = bs) = true := decide_eq_true hY
  have HS : Hid (Calls _ _ _ _ _) := ref1Same_any r9 HRB.out
  rw [hd] at HS
  have HY := Lib.hid hY
  clear hd hY
  go_wp2_with fail
  refine HS.out.mono ?_
  rintro e10 w10 ⟨rfl, hw10⟩
  subst hw10
  have fa := filled_apart (w10) (w.heap.size) ⟨.slice ar mr cr, (fam : Int), .slice aq mq cq, (ts : Int), (sq : Int), (kd : Int), .slice none 0 0, row, qual, []⟩
  have fb := filled_box BG.out ⟨.slice ar mr cr, (fam : Int), .slice aq mq cq, (ts : Int), (sq : Int), (kd : Int), .slice none 0 0, row, qual, []⟩
  have bw := B9.trans (fa.below (Nat.le_refl _) B9.size)
  obtain ⟨g0, g1, g2, g3, g4, g5, g6⟩ := BG.out.cells7
  obtain ⟨gf0, gf1, gf2, gf3, gf4, gf5, gf6⟩ := BG.out.fz7
  obtain ⟨m0, m1, m2, m3, m4, m5, m6⟩ := BX10.out.cells7
  simp only at g0 g1 g2 g3 g4 g5 g6 m0 m1 m2 m3 m4 m5 m6
  have fo : Own (filled w10 (w.heap.size) ⟨.slice ar mr cr, (fam : Int), .slice aq mq cq, (ts : Int), (sq : Int), (kd : Int), .slice none 0 0, row, qual, []⟩) (w.heap.size + 1 + 1 + 1) (.slice ar mr cr) mr row := OWZ.out.1.fillo (by omega)
  have fq : Own (filled w10 (w.heap.size) ⟨.slice ar mr cr, (fam : Int), .slice aq mq cq, (ts : Int), (sq : Int), (kd : Int), .slice none 0 0, row, qual, []⟩) w1.heap.size (.slice aq mq cq) mq qual := OWZ.out.2.fillo (by omega)
  have HOO := Lib.hid (And.intro fo fq)
  clear fo fq
  simp only [filled] at HOO
  have HDN : Hid (_ ∧ _) := ⟨fb, bw⟩
  clear fa fb bw
  simp only [filled] at HDN
  go_wp2
  obtain ⟨fb, bw⟩ := HDN.out
  clear HDN
  have foo := HOO.out
  clear HOO
  generalize ((((((((w10).setCell ⟨w.heap.size, 0, none⟩ (.slice ar mr cr)).setCell ⟨w.heap.size, 1, none⟩ (.int .i64 (fam : Int))).setCell ⟨w.heap.size, 2, none⟩ (.slice aq mq cq)).setCell ⟨w.heap.size, 3, none⟩ (.int .i64 (ts : Int))).setCell ⟨w.heap.size, 4, none⟩ (.int .i64 (sq : Int))).setCell ⟨w.heap.size, 5, none⟩ (.int .i64 (kd : Int))).setCell ⟨w.heap.size, 6, none⟩ (.slice none 0 0)) = wz at fb bw foo ⊢
  obtain ⟨t0, t1, t2, t3, t4, t5, t6⟩ := fb.cells7
  simp only at t0 t1 t2 t3 t4 t5 t6
  (try simp only [Exit.inBlock, Exit.then])
  refine bodyPost_ret (v := .tuple #[.agg #[.slice ar mr cr, .int .i64 (fam : Int), .slice aq mq cq, .int .i64 (ts : Int), .int .i64 (sq : Int), .int .i64 (kd : Int), .slice none 0 0], .int .i64 0]) ?hres rfl ?_
  case hres => simp [results, Tryz.results99, go_sem, t0, t1, t2, t3, t4, t5, t6]
  refine ⟨bw, .inl ⟨X, HC.out.symm, by rw [HX.out], HY.out, by rw [HX.out]; exact HROW.out.1, by rw [HX.out]; exact HQUAL.out.1, by rw [HX.out], by rw [HX.out]; rfl, ?_, ?_⟩⟩
  ·rw [HX.out]; exact (own_len foo.1).mono (by omega)
  ·exact ⟨w1.heap.size, by omega, by rw [HX.out]; exact own_len foo.2, by rw [HX.out]; exact OWX.out.2.2⟩
 ·have hd : decide (keyL X = bs) = false := decide_eq_false hY
  have HS : Hid (Calls _ _ _ _ _) := ref1Same_any r9 HRB.out
  rw [hd] at HS
  have HY := Lib.hid hY
  clear hd hY
  go_wp2_with fail
  refine HS.out.mono ?_
  rintro e10 w10 ⟨rfl, hw10⟩
  subst hw10
  have fa := filled_apart (w10) (w.heap.size) ⟨.slice none 0 0, 0, .slice none 0 0, 0, 0, 0, .slice none 0 0, [], [], []⟩
  have fb := filled_box BG.out ⟨.slice none 0 0, 0, .slice none 0 0, 0, 0, 0, .slice none 0 0, [], [], []⟩
  have bw := B9.trans (fa.below (Nat.le_refl _) B9.size)
  obtain ⟨g0, g1, g2, g3, g4, g5, g6⟩ := BG.out.cells7
  obtain ⟨gf0, gf1, gf2, gf3, gf4, gf5, gf6⟩ := BG.out.fz7
  obtain ⟨m0, m1, m2, m3, m4, m5, m6⟩ := BN.out.cells7
  simp only at g0 g1 g2 g3 g4 g5 g6 m0 m1 m2 m3 m4 m5 m6
  have HDN : Hid (_ ∧ _) := ⟨fb, bw⟩
  clear fa fb bw
  simp only [filled] at HDN
  go_wp2
  obtain ⟨fb, bw⟩ := HDN.out
  clear HDN
  generalize ((((((((w10).setCell ⟨w.heap.size, 0, none⟩ (.slice none 0 0)).setCell ⟨w.heap.size, 1, none⟩ (.int .i64 0)).setCell ⟨w.heap.size, 2, none⟩ (.slice none 0 0)).setCell ⟨w.heap.size, 3, none⟩ (.int .i64 0)).setCell ⟨w.heap.size, 4, none⟩ (.int .i64 0)).setCell ⟨w.heap.size, 5, none⟩ (.int .i64 0)).setCell ⟨w.heap.size, 6, none⟩ (.slice none 0 0)) = wz at fb bw ⊢
  obtain ⟨t0, t1, t2, t3, t4, t5, t6⟩ := fb.cells7
  simp only at t0 t1 t2 t3 t4 t5 t6
  (try simp only [Exit.inBlock, Exit.then])
  refine bodyPost_ret (v := .tuple #[.agg #[.slice none 0 0, .int .i64 0, .slice none 0 0, .int .i64 0, .int .i64 0, .int .i64 0, .slice none 0 0], .int .i64 27]) ?hres rfl ?_
  case hres => simp [results, Tryz.results99, go_sem, t0, t1, t2, t3, t4, t5, t6]
  exact ⟨bw, .inr ⟨fun h => by exact HY.out (HIF.out.1 h).2, rfl⟩⟩

end Go.Proofs.YtchebhafabhabaaGreatDoor

namespace Go.Proofs.YtchebhafabhabaaGreatDoor
open Go.RowKit
set_option linter.unusedVariables false

theorem refParse_any {w : World} {m c : Nat} {a : Option Addr} {bs : List Nat} (hr : Rd w (.slice a m c) bs) (h47 : bs.length ≤ 140737488355328) :
  Calls Tryz.prog 99 #[.slice a m c] w fun e w' => ParsedAs w w' e bs := by
 obtain ⟨⟨row, p1, E1⟩, q1⟩ : ∃ x, ordR bs 0 = x := ⟨_, rfl⟩
 by_cases hfm : bs.getD (p1 + 1) 0 = 0
 ·obtain ⟨⟨ts, p6, E6⟩, q6⟩ : ∃ x, fallR bs (p1 + 2) = x := ⟨_, rfl⟩
  obtain ⟨⟨sq, p7, E7⟩, q7⟩ : ∃ x, fallR bs p6 = x := ⟨_, rfl⟩
  exact refParse_fam hr h47 q1 hfm q6 q7
 ·obtain ⟨⟨qual, p4, E4⟩, q4⟩ : ∃ x, ordR bs (p1 + 2) = x := ⟨_, rfl⟩
  obtain ⟨⟨ts, p6, E6⟩, q6⟩ : ∃ x, fallR bs (p4 + 1) = x := ⟨_, rfl⟩
  obtain ⟨⟨sq, p7, E7⟩, q7⟩ : ∃ x, fallR bs p6 = x := ⟨_, rfl⟩
  exact refParse_plain hr h47 q1 hfm q4 q6 q7

end Go.Proofs.YtchebhafabhabaaGreatDoor
