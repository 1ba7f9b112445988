import Derived.Test.YtpabbnddeklpdaaGreatK11
namespace Go.Proofs.YtpabbnddeklpdaaGreat
open Go.RowKit
set_option linter.unusedVariables false

set_option maxRecDepth 100000 in
set_option maxHeartbeats 4000000 in
theorem refkey_any {e : EntD} {w : World} (hok : EntD.Ok w e) (hc : checkS e = 0) :
  Calls Tryz.prog 53 #[.agg e.cells] w fun r w' => ∃ a m c, r = .returned (.slice a m c) ∧ Own w' w.heap.size (.slice a m c) m (keyL e) ∧ Below w.heap.size w w' := by
 obtain ⟨f1, f2, f3, f4, f5, f6, f7, _, _⟩ := check_facts hc
 have A1 := (Below.refl w.heap.size w).alloc (Nat.le_refl _) (.cells e.cells 38)
 have bx1 : Hid (EBox (w.alloc (.cells e.cells 38)) w.heap.size e) := EBox.new w e
 obtain ⟨vr, fam, vq, ts, seq, kind, vv, row, qual, val⟩ := e
 obtain ⟨h1, h2, h3⟩ := hok
 simp only [EntD.cells] at *
 obtain ⟨fm, rfl⟩ := Int.eq_ofNat_of_zero_le f2.1
 obtain ⟨t, rfl⟩ := Int.eq_ofNat_of_zero_le (show 0 ≤ ts by omega)
 obtain ⟨sq, rfl⟩ := Int.eq_ofNat_of_zero_le f6.1
 obtain ⟨kd, rfl⟩ := Int.eq_ofNat_of_zero_le (show 0 ≤ kind by omega)
 have HOR : Hid ((ordL row).length ≤ 514 ∧ Bys (ordL row)) := ⟨by have := ordL_len row; have : row.count 0 ≤ row.length := List.count_le_length; omega, ordL_bys row h1.1⟩
 have HOQ : Hid ((ordL qual).length ≤ 514 ∧ Bys (ordL qual)) := ⟨by have := ordL_len qual; have : qual.count 0 ≤ qual.length := List.count_le_length; omega, ordL_bys qual h2.1⟩
 have hfm : fm < 8 := by omega
 have hkd : kd ≤ 5 := by omega
 have hts : t < 9223372036854775808 := by omega
 have hsq : sq < 9223372036854775808 := by omega
 have em1 : (fm : Int) % 256 = (fm : Int) := by omega
 have em2 : (kd : Int) % 256 = (kd : Int) := by omega
 have HRR : Hid (Rd w vr row) := h1
 have HRQ : Hid (Rd w vq qual) := h2
 clear h1 h2 h3 f1 f2 f3 f5 f6 f7 f4 hc
 go_enter Tryz.func53, Tryz.ntmps53
 go_wp2_with fail
 refine (refOrdered_any (HRR.out.later A1) (by have := HOR.out.1; omega)).mono ?_
 rintro e1 w1 ⟨a1, m1, c1, rfl, own1x, hb1⟩
 have B1 := A1.trans (hb1.mono A1.size)
 have bxw1 : Hid (EBox w1 w.heap.size _) := bx1.out.later hb1
 have hG : w.heap.size < w.heap.size + 1 := by omega
 have own1 : Own w1 (w.heap.size + 1) (.slice a1 m1 c1) m1 (ordL row) := by simpa using own1x
 have hS1 : w.heap.size + 1 ≤ w1.heap.size := by have := hb1.size; simpa using this
 have hm1 : m1 ≤ 514 := by rw [own1.1]; exact HOR.out.1
 clear hb1 bx1 own1x A1
 have xfam1 := bxw1.out.fam
 simp only at xfam1
 go_wp2_with (at_builtin; refine wpList_append_new rfl _ _ rfl (w.heap.size + 1) a1 m1 c1 _ rfl own1 [_] 1 rfl [fm] (by first | rfl | (simp [bv]; done) | (simp [bv]; omega)) rfl (by omega) hS1 ?_; intro a2 m2 c2 w2 own2 hb2; refine Hid.out ?_)
 refine Lib.hid ?_
 have hm2 : m2 ≤ 515 := by rw [own2.1, List.length_append, ← own1.1]; simp; omega
 have bxw2 : Hid (EBox w2 w.heap.size _) := bxw1.out.keep hb2 hG
 have B2 := B1.trans (hb2.mono (Nat.le_of_lt hG))
 have hS2 : w.heap.size + 1 ≤ w2.heap.size := Nat.le_trans hS1 hb2.size
 clear bxw1 B1 hS1 hb2 own1 hm1
 clear xfam1
 by_cases hk5 : kd = 5
 ·have HKL : Hid (keyL ⟨vr, (fm : Int), vq, (t : Int), (sq : Int), (kd : Int), vv, row, qual, val⟩ = ((((ordL row ++ [fm]) ++ [0]) ++ be8 (9223372036854775807 - t)) ++ be8 (9223372036854775807 - sq)) ++ [kd]) := by
   unfold Hid keyL mark
   have : (kd : Int) = 5 := by omega
   simp [this]
   omega
  have hkn : ((kd : Int) == 5) = true := by simp; omega
  have xkind2 := bxw2.out.kind
  simp only at xkind2
  go_wp2_with (at_builtin; refine wpList_append_new rfl _ _ rfl (w.heap.size + 1) a2 m2 c2 _ rfl own2 [_] 1 rfl [0] (by first | rfl | (simp [bv]; done) | (simp [bv]; omega)) rfl (by omega) hS2 ?_; intro a3 m3 c3 w3 own3 hb3; refine Hid.out ?_)
  refine Lib.hid ?_
  have hm3 : m3 ≤ 516 := by rw [own3.1, List.length_append, ← own2.1]; simp; omega
  have bxw3 : Hid (EBox w3 w.heap.size _) := bxw2.out.keep hb3 hG
  have B3 := B2.trans (hb3.mono (Nat.le_of_lt hG))
  have hS3 : w.heap.size + 1 ≤ w3.heap.size := Nat.le_trans hS2 hb3.size
  clear bxw2 B2 hS2 hb3 own2 hm2
  clear xkind2
  have xts3 := bxw3.out.ts
  simp only at xts3
  go_wp2_with fail
  refine (refFalling_any t hts _).mono ?_
  rintro e7 w7 ⟨a7, m7, c7, rfl, own7, hb7⟩
  have hm7 : m7 = 8 := own7.1
  subst hm7
  have r7 : Rd w7 (.slice a7 8 c7) _ := own7.rd (be8_bys _) (by omega)
  have own67 := own3.later hb7
  have bxw7 : Hid (EBox w7 w.heap.size _) := bxw3.out.later hb7
  have B7 := B3.trans (hb7.mono B3.size)
  have hS7 : w.heap.size + 1 ≤ w7.heap.size := Nat.le_trans hS3 hb7.size
  clear bxw3 B3 hS3 hb7 own3 own7 xts3
  have xseq7 := bxw7.out.seq
  simp only at xseq7
  go_wp2_with fail
  refine (refFalling_any sq hsq _).mono ?_
  rintro e8 w8 ⟨a8, m8, c8, rfl, own8, hb8⟩
  have hm8 : m8 = 8 := own8.1
  subst hm8
  have r78 := r7.later hb8
  have own68 := own67.later hb8
  have HLT : Hid (∀ g, (Value.slice a3 m3 c3).ownBlock = some g → g < w7.heap.size) := fun g hg => (own67.2.lt g hg).2
  have bxw8 : Hid (EBox w8 w.heap.size _) := bxw7.out.later hb8
  have B8 := B7.trans (hb8.mono B7.size)
  have hS8 : w.heap.size + 1 ≤ w8.heap.size := Nat.le_trans hS7 hb8.size
  have R8 : Hid (Own w8 w7.heap.size (.slice a8 8 c8) 8 (be8 (9223372036854775807 - sq)) ∧ Below w7.heap.size w7 w8) := ⟨own8, hb8⟩
  clear bxw7 B7 hb8 own67 own8 xseq7 r7
  go_wp2_with (at_builtin; refine wpList_append_gr rfl _ _ rfl (w.heap.size + 1) a3 m3 c3 _ rfl own68 a7 8 c7 _ rfl r78 (by omega) hS8 ?_; intro a9 m9 c9 w9 own9 hb9 gr9; refine Hid.out ?_)
  refine Lib.hid ?_
  have hm9 : m9 ≤ 524 := by rw [own9.1, List.length_append, ← own68.1]; simp [be8]; omega
  have r9 : Rd w9 (.slice a8 8 c8) _ := (R8.out.1.grown gr9 HLT.out).rd (be8_bys _) (by omega)
  have bxw9 : Hid (EBox w9 w.heap.size _) := bxw8.out.keep hb9 hG
  have B9 := B8.trans (hb9.mono (Nat.le_of_lt hG))
  have hS9 : w.heap.size + 1 ≤ w9.heap.size := Nat.le_trans hS8 hb9.size
  clear bxw8 B8 hS8 hb9 own68 r78 R8 HLT gr9 hS7 hm3
  go_wp2_with (at_builtin; refine wpList_append_at rfl _ _ rfl (w.heap.size + 1) a9 m9 c9 _ rfl own9 a8 8 c8 _ rfl r9 (by omega) hS9 ?_; intro a10 m10 c10 w10 own10 hb10; refine Hid.out ?_)
  refine Lib.hid ?_
  have hm10 : m10 ≤ 532 := by rw [own10.1, List.length_append, ← own9.1]; simp [be8]; omega
  have bxw10 : Hid (EBox w10 w.heap.size _) := bxw9.out.keep hb10 hG
  have B10 := B9.trans (hb10.mono (Nat.le_of_lt hG))
  have hS10 : w.heap.size + 1 ≤ w10.heap.size := Nat.le_trans hS9 hb10.size
  clear bxw9 B9 hS9 hb10 own9 r9 hm9
  have xkind10 := bxw10.out.kind
  simp only at xkind10
  go_wp2_with (at_builtin; refine wpList_append_new rfl _ _ rfl (w.heap.size + 1) a10 m10 c10 _ rfl own10 [_] 1 rfl [kd] (by first | rfl | (simp [bv]; done) | (simp [bv]; omega)) rfl (by omega) hS10 ?_; intro a11 m11 c11 w11 own11 hb11)
  go_ret
  refine ⟨a11, m11, c11, rfl, ?_, B10.trans (hb11.mono (Nat.le_of_lt hG))⟩
  rw [HKL.out]
  exact own11.mono (Nat.le_of_lt hG)
 by_cases hk4c : kd = 4
 ·have HKL : Hid (keyL ⟨vr, (fm : Int), vq, (t : Int), (sq : Int), (kd : Int), vv, row, qual, val⟩ = ((((((ordL row ++ [fm]) ++ [1]) ++ ordL qual) ++ [0]) ++ be8 (9223372036854775807 - t)) ++ be8 (9223372036854775807 - sq)) ++ [kd]) := by
   unfold Hid keyL mark
   have h4 : (kd : Int) = 4 := by omega
   simp [h4]
   omega
  have hkn : ((kd : Int) == 5) = false := by simp; omega
  have hk4 : ((kd : Int) == 4) = true := by simp; omega
  have xkind2 := bxw2.out.kind
  simp only at xkind2
  go_wp2_with (at_builtin; refine wpList_append_new rfl _ _ rfl (w.heap.size + 1) a2 m2 c2 _ rfl own2 [_] 1 rfl [1] (by first | rfl | (simp [bv]; done) | (simp [bv]; omega)) rfl (by omega) hS2 ?_; intro a3 m3 c3 w3 own3 hb3; refine Hid.out ?_)
  refine Lib.hid ?_
  have hm3 : m3 ≤ 516 := by rw [own3.1, List.length_append, ← own2.1]; simp; omega
  have bxw3 : Hid (EBox w3 w.heap.size _) := bxw2.out.keep hb3 hG
  have B3 := B2.trans (hb3.mono (Nat.le_of_lt hG))
  have hS3 : w.heap.size + 1 ≤ w3.heap.size := Nat.le_trans hS2 hb3.size
  clear bxw2 B2 hS2 hb3 own2 hm2
  clear xkind2
  have xvq3 := bxw3.out.vq
  simp only at xvq3
  go_wp2_with fail
  refine (refOrdered_any (HRQ.out.later B3) (by have := HOQ.out.1; omega)).mono ?_
  rintro e4 w4 ⟨a4, m4, c4, rfl, own4, hb4⟩
  have hm4 : m4 ≤ 514 := by rw [own4.1]; exact HOQ.out.1
  have r4 : Rd w4 (.slice a4 m4 c4) _ := own4.rd HOQ.out.2 (by omega)
  have own34 := own3.later hb4
  have bxw4 : Hid (EBox w4 w.heap.size _) := bxw3.out.later hb4
  have B4 := B3.trans (hb4.mono B3.size)
  have hS4 : w.heap.size + 1 ≤ w4.heap.size := Nat.le_trans hS3 hb4.size
  have HL4 : Hid (m4 = (ordL qual).length) := own4.1
  clear bxw3 B3 hS3 hb4 own3 own4 xvq3
  go_wp2_with (at_builtin; refine wpList_append_at rfl _ _ rfl (w.heap.size + 1) a3 m3 c3 _ rfl own34 a4 m4 c4 _ rfl r4 (by omega) hS4 ?_; intro a5 m5 c5 w5 own5 hb5; refine Hid.out ?_)
  refine Lib.hid ?_
  have hm5 : m5 ≤ 1030 := by rw [own5.1, List.length_append, ← own34.1, ← HL4.out]; omega
  have bxw5 : Hid (EBox w5 w.heap.size _) := bxw4.out.keep hb5 hG
  have B5 := B4.trans (hb5.mono (Nat.le_of_lt hG))
  have hS5 : w.heap.size + 1 ≤ w5.heap.size := Nat.le_trans hS4 hb5.size
  clear bxw4 B4 hS4 hb5 own34 r4 hm3 hm4 HL4
  have xkind5 := bxw5.out.kind
  simp only at xkind5
  go_wp2_with (at_builtin; refine wpList_append_new rfl _ _ rfl (w.heap.size + 1) a5 m5 c5 _ rfl own5 [_] 1 rfl [0] (by first | rfl | (simp [bv]; done) | (simp [bv]; omega)) rfl (by omega) hS5 ?_; intro a6 m6 c6 w6 own6 hb6; refine Hid.out ?_)
  refine Lib.hid ?_
  have hm6 : m6 ≤ 1031 := by rw [own6.1, List.length_append, ← own5.1]; simp; omega
  have bxw6 : Hid (EBox w6 w.heap.size _) := bxw5.out.keep hb6 hG
  have B6 := B5.trans (hb6.mono (Nat.le_of_lt hG))
  have hS6 : w.heap.size + 1 ≤ w6.heap.size := Nat.le_trans hS5 hb6.size
  clear bxw5 B5 hS5 hb6 own5 hm5
  clear xkind5
  have xts6 := bxw6.out.ts
  simp only at xts6
  go_wp2_with fail
  refine (refFalling_any t hts _).mono ?_
  rintro e7 w7 ⟨a7, m7, c7, rfl, own7, hb7⟩
  have hm7 : m7 = 8 := own7.1
  subst hm7
  have r7 : Rd w7 (.slice a7 8 c7) _ := own7.rd (be8_bys _) (by omega)
  have own67 := own6.later hb7
  have bxw7 : Hid (EBox w7 w.heap.size _) := bxw6.out.later hb7
  have B7 := B6.trans (hb7.mono B6.size)
  have hS7 : w.heap.size + 1 ≤ w7.heap.size := Nat.le_trans hS6 hb7.size
  clear bxw6 B6 hS6 hb7 own6 own7 xts6
  have xseq7 := bxw7.out.seq
  simp only at xseq7
  go_wp2_with fail
  refine (refFalling_any sq hsq _).mono ?_
  rintro e8 w8 ⟨a8, m8, c8, rfl, own8, hb8⟩
  have hm8 : m8 = 8 := own8.1
  subst hm8
  have r78 := r7.later hb8
  have own68 := own67.later hb8
  have HLT : Hid (∀ g, (Value.slice a6 m6 c6).ownBlock = some g → g < w7.heap.size) := fun g hg => (own67.2.lt g hg).2
  have bxw8 : Hid (EBox w8 w.heap.size _) := bxw7.out.later hb8
  have B8 := B7.trans (hb8.mono B7.size)
  have hS8 : w.heap.size + 1 ≤ w8.heap.size := Nat.le_trans hS7 hb8.size
  have R8 : Hid (Own w8 w7.heap.size (.slice a8 8 c8) 8 (be8 (9223372036854775807 - sq)) ∧ Below w7.heap.size w7 w8) := ⟨own8, hb8⟩
  clear bxw7 B7 hb8 own67 own8 xseq7 r7
  go_wp2_with (at_builtin; refine wpList_append_gr rfl _ _ rfl (w.heap.size + 1) a6 m6 c6 _ rfl own68 a7 8 c7 _ rfl r78 (by omega) hS8 ?_; intro a9 m9 c9 w9 own9 hb9 gr9; refine Hid.out ?_)
  refine Lib.hid ?_
  have hm9 : m9 ≤ 1039 := by rw [own9.1, List.length_append, ← own68.1]; simp [be8]; omega
  have r9 : Rd w9 (.slice a8 8 c8) _ := (R8.out.1.grown gr9 HLT.out).rd (be8_bys _) (by omega)
  have bxw9 : Hid (EBox w9 w.heap.size _) := bxw8.out.keep hb9 hG
  have B9 := B8.trans (hb9.mono (Nat.le_of_lt hG))
  have hS9 : w.heap.size + 1 ≤ w9.heap.size := Nat.le_trans hS8 hb9.size
  clear bxw8 B8 hS8 hb9 own68 r78 R8 HLT gr9 hS7 hm6
  go_wp2_with (at_builtin; refine wpList_append_at rfl _ _ rfl (w.heap.size + 1) a9 m9 c9 _ rfl own9 a8 8 c8 _ rfl r9 (by omega) hS9 ?_; intro a10 m10 c10 w10 own10 hb10; refine Hid.out ?_)
  refine Lib.hid ?_
  have hm10 : m10 ≤ 1047 := by rw [own10.1, List.length_append, ← own9.1]; simp [be8]; omega
  have bxw10 : Hid (EBox w10 w.heap.size _) := bxw9.out.keep hb10 hG
  have B10 := B9.trans (hb10.mono (Nat.le_of_lt hG))
  have hS10 : w.heap.size + 1 ≤ w10.heap.size := Nat.le_trans hS9 hb10.size
  clear bxw9 B9 hS9 hb10 own9 r9 hm9
  have xkind10 := bxw10.out.kind
  simp only at xkind10
  go_wp2_with (at_builtin; refine wpList_append_new rfl _ _ rfl (w.heap.size + 1) a10 m10 c10 _ rfl own10 [_] 1 rfl [kd] (by first | rfl | (simp [bv]; done) | (simp [bv]; omega)) rfl (by omega) hS10 ?_; intro a11 m11 c11 w11 own11 hb11)
  go_ret
  refine ⟨a11, m11, c11, rfl, ?_, B10.trans (hb11.mono (Nat.le_of_lt hG))⟩
  rw [HKL.out]
  exact own11.mono (Nat.le_of_lt hG)
 ·have HKL : Hid (keyL ⟨vr, (fm : Int), vq, (t : Int), (sq : Int), (kd : Int), vv, row, qual, val⟩ = ((((((ordL row ++ [fm]) ++ [1]) ++ ordL qual) ++ [1]) ++ be8 (9223372036854775807 - t)) ++ be8 (9223372036854775807 - sq)) ++ [kd]) := by
   unfold Hid keyL mark
   have h4 : ¬ ((kd : Int) = 4) := by omega
   have h5 : ¬ ((kd : Int) = 5) := by omega
   simp [h4, h5]
  have hkn : ((kd : Int) == 5) = false := by simp; omega
  have hk4 : ((kd : Int) == 4) = false := by simp; omega
  have xkind2 := bxw2.out.kind
  simp only at xkind2
  go_wp2_with (at_builtin; refine wpList_append_new rfl _ _ rfl (w.heap.size + 1) a2 m2 c2 _ rfl own2 [_] 1 rfl [1] (by first | rfl | (simp [bv]; done) | (simp [bv]; omega)) rfl (by omega) hS2 ?_; intro a3 m3 c3 w3 own3 hb3; refine Hid.out ?_)
  refine Lib.hid ?_
  have hm3 : m3 ≤ 516 := by rw [own3.1, List.length_append, ← own2.1]; simp; omega
  have bxw3 : Hid (EBox w3 w.heap.size _) := bxw2.out.keep hb3 hG
  have B3 := B2.trans (hb3.mono (Nat.le_of_lt hG))
  have hS3 : w.heap.size + 1 ≤ w3.heap.size := Nat.le_trans hS2 hb3.size
  clear bxw2 B2 hS2 hb3 own2 hm2
  clear xkind2
  have xvq3 := bxw3.out.vq
  simp only at xvq3
  go_wp2_with fail
  refine (refOrdered_any (HRQ.out.later B3) (by have := HOQ.out.1; omega)).mono ?_
  rintro e4 w4 ⟨a4, m4, c4, rfl, own4, hb4⟩
  have hm4 : m4 ≤ 514 := by rw [own4.1]; exact HOQ.out.1
  have r4 : Rd w4 (.slice a4 m4 c4) _ := own4.rd HOQ.out.2 (by omega)
  have own34 := own3.later hb4
  have bxw4 : Hid (EBox w4 w.heap.size _) := bxw3.out.later hb4
  have B4 := B3.trans (hb4.mono B3.size)
  have hS4 : w.heap.size + 1 ≤ w4.heap.size := Nat.le_trans hS3 hb4.size
  have HL4 : Hid (m4 = (ordL qual).length) := own4.1
  clear bxw3 B3 hS3 hb4 own3 own4 xvq3
  go_wp2_with (at_builtin; refine wpList_append_at rfl _ _ rfl (w.heap.size + 1) a3 m3 c3 _ rfl own34 a4 m4 c4 _ rfl r4 (by omega) hS4 ?_; intro a5 m5 c5 w5 own5 hb5; refine Hid.out ?_)
  refine Lib.hid ?_
  have hm5 : m5 ≤ 1030 := by rw [own5.1, List.length_append, ← own34.1, ← HL4.out]; omega
  have bxw5 : Hid (EBox w5 w.heap.size _) := bxw4.out.keep hb5 hG
  have B5 := B4.trans (hb5.mono (Nat.le_of_lt hG))
  have hS5 : w.heap.size + 1 ≤ w5.heap.size := Nat.le_trans hS4 hb5.size
  clear bxw4 B4 hS4 hb5 own34 r4 hm3 hm4 HL4
  have xkind5 := bxw5.out.kind
  simp only at xkind5
  go_wp2_with (at_builtin; refine wpList_append_new rfl _ _ rfl (w.heap.size + 1) a5 m5 c5 _ rfl own5 [_] 1 rfl [1] (by first | rfl | (simp [bv]; done) | (simp [bv]; omega)) rfl (by omega) hS5 ?_; intro a6 m6 c6 w6 own6 hb6; refine Hid.out ?_)
  refine Lib.hid ?_
  have hm6 : m6 ≤ 1031 := by rw [own6.1, List.length_append, ← own5.1]; simp; omega
  have bxw6 : Hid (EBox w6 w.heap.size _) := bxw5.out.keep hb6 hG
  have B6 := B5.trans (hb6.mono (Nat.le_of_lt hG))
  have hS6 : w.heap.size + 1 ≤ w6.heap.size := Nat.le_trans hS5 hb6.size
  clear bxw5 B5 hS5 hb6 own5 hm5
  clear xkind5
  have xts6 := bxw6.out.ts
  simp only at xts6
  go_wp2_with fail
  refine (refFalling_any t hts _).mono ?_
  rintro e7 w7 ⟨a7, m7, c7, rfl, own7, hb7⟩
  have hm7 : m7 = 8 := own7.1
  subst hm7
  have r7 : Rd w7 (.slice a7 8 c7) _ := own7.rd (be8_bys _) (by omega)
  have own67 := own6.later hb7
  have bxw7 : Hid (EBox w7 w.heap.size _) := bxw6.out.later hb7
  have B7 := B6.trans (hb7.mono B6.size)
  have hS7 : w.heap.size + 1 ≤ w7.heap.size := Nat.le_trans hS6 hb7.size
  clear bxw6 B6 hS6 hb7 own6 own7 xts6
  have xseq7 := bxw7.out.seq
  simp only at xseq7
  go_wp2_with fail
  refine (refFalling_any sq hsq _).mono ?_
  rintro e8 w8 ⟨a8, m8, c8, rfl, own8, hb8⟩
  have hm8 : m8 = 8 := own8.1
  subst hm8
  have r78 := r7.later hb8
  have own68 := own67.later hb8
  have HLT : Hid (∀ g, (Value.slice a6 m6 c6).ownBlock = some g → g < w7.heap.size) := fun g hg => (own67.2.lt g hg).2
  have bxw8 : Hid (EBox w8 w.heap.size _) := bxw7.out.later hb8
  have B8 := B7.trans (hb8.mono B7.size)
  have hS8 : w.heap.size + 1 ≤ w8.heap.size := Nat.le_trans hS7 hb8.size
  have R8 : Hid (Own w8 w7.heap.size (.slice a8 8 c8) 8 (be8 (9223372036854775807 - sq)) ∧ Below w7.heap.size w7 w8) := ⟨own8, hb8⟩
  clear bxw7 B7 hb8 own67 own8 xseq7 r7
  go_wp2_with (at_builtin; refine wpList_append_gr rfl _ _ rfl (w.heap.size + 1) a6 m6 c6 _ rfl own68 a7 8 c7 _ rfl r78 (by omega) hS8 ?_; intro a9 m9 c9 w9 own9 hb9 gr9; refine Hid.out ?_)
  refine Lib.hid ?_
  have hm9 : m9 ≤ 1039 := by rw [own9.1, List.length_append, ← own68.1]; simp [be8]; omega
  have r9 : Rd w9 (.slice a8 8 c8) _ := (R8.out.1.grown gr9 HLT.out).rd (be8_bys _) (by omega)
  have bxw9 : Hid (EBox w9 w.heap.size _) := bxw8.out.keep hb9 hG
  have B9 := B8.trans (hb9.mono (Nat.le_of_lt hG))
  have hS9 : w.heap.size + 1 ≤ w9.heap.size := Nat.le_trans hS8 hb9.size
  clear bxw8 B8 hS8 hb9 own68 r78 R8 HLT gr9 hS7 hm6
  go_wp2_with (at_builtin; refine wpList_append_at rfl _ _ rfl (w.heap.size + 1) a9 m9 c9 _ rfl own9 a8 8 c8 _ rfl r9 (by omega) hS9 ?_; intro a10 m10 c10 w10 own10 hb10; refine Hid.out ?_)
  refine Lib.hid ?_
  have hm10 : m10 ≤ 1047 := by rw [own10.1, List.length_append, ← own9.1]; simp [be8]; omega
  have bxw10 : Hid (EBox w10 w.heap.size _) := bxw9.out.keep hb10 hG
  have B10 := B9.trans (hb10.mono (Nat.le_of_lt hG))
  have hS10 : w.heap.size + 1 ≤ w10.heap.size := Nat.le_trans hS9 hb10.size
  clear bxw9 B9 hS9 hb10 own9 r9 hm9
  have xkind10 := bxw10.out.kind
  simp only at xkind10
  go_wp2_with (at_builtin; refine wpList_append_new rfl _ _ rfl (w.heap.size + 1) a10 m10 c10 _ rfl own10 [_] 1 rfl [kd] (by first | rfl | (simp [bv]; done) | (simp [bv]; omega)) rfl (by omega) hS10 ?_; intro a11 m11 c11 w11 own11 hb11)
  go_ret
  refine ⟨a11, m11, c11, rfl, ?_, B10.trans (hb11.mono (Nat.le_of_lt hG))⟩
  rw [HKL.out]
  exact own11.mono (Nat.le_of_lt hG)

set_option maxRecDepth 100000 in
set_option maxHeartbeats 4000000 in
theorem refPack_bad {e : EntD} {w : World} (hok : EntD.Ok w e) (hc : checkS e ≠ 0) :
  Calls Tryz.prog 36 #[.agg e.cells] w fun r w' => r = .returned (.tuple #[.slice none 0 0, .int .i64 ((checkS e : Nat) : Int)]) ∧ Below w.heap.size w w' := by
 obtain ⟨C, hC⟩ : ∃ C, C = checkS e := ⟨_, rfl⟩
 have A1 := (Below.refl w.heap.size w).alloc (Nat.le_refl _) (.cells e.cells 38)
 have c1 := refCheck_any (hok.later A1)
 rw [← hC] at c1 hc ⊢
 have HC1 : Hid (Calls _ _ _ _ _) := c1
 have h0 : ((C : Int) != 0) = true := by simp; omega
 have h1 : ¬ ((C : Int) = 0) := by omega
 clear c1 hC hok
 simp only [EntD.cells] at *
 go_enter Tryz.func36, Tryz.ntmps36
 go_wp2_with fail
 refine HC1.out.mono ?_
 rintro e1 w1 ⟨rfl, hb1⟩
 have B1 := A1.trans (hb1.mono A1.size)
 go_wp2
 go_ret2
 exact ⟨rfl, B1⟩

set_option maxRecDepth 100000 in
set_option maxHeartbeats 4000000 in
theorem refPack_ok {e : EntD} {w : World} (hok : EntD.Ok w e) (hc : checkS e = 0) :
  Calls Tryz.prog 36 #[.agg e.cells] w fun r w' => ∃ a m c, r = .returned (.tuple #[.slice a m c, .int .i64 0]) ∧ Own w' w.heap.size (.slice a m c) m (packL e) ∧ Below w.heap.size w w' := by
 have hvl : e.val.length ≤ 4096 := (check_facts hc).2.2.2.2.2.2.2.1
 have A1 := (Below.refl w.heap.size w).alloc (Nat.le_refl _) (.cells e.cells 38)
 have bx1 : Hid (EBox (w.alloc (.cells e.cells 38)) w.heap.size e) := EBox.new w e
 have c1 := refCheck_any (hok.later A1)
 rw [hc] at c1
 have HC1 : Hid (Calls _ _ _ _ _) := c1
 have HC2 : Hid (∀ w', EntD.Ok w' e → Calls Tryz.prog 53 #[.agg e.cells] w' fun r w'' => ∃ a m c, r = .returned (.slice a m c) ∧ Own w'' w'.heap.size (.slice a m c) m (keyL e) ∧ Below w'.heap.size w' w'') := fun w' h => refkey_any h hc
 have HKL : Hid (Bys (keyL e) ∧ (keyL e).length ≤ 2000) := ⟨keyL_bys hok.1.1 hok.2.1.1 hc, keyL_len hc⟩
 have HV : Hid (Rd w e.vv e.val ∧ e.val.length ≤ 4096) := ⟨hok.2.2, hvl⟩
 have HK : Hid (EntD.Ok w e) := hok
 obtain ⟨av, mv, cv, ev⟩ := rd_slice hok.2.2
 have HEV : Hid (e.vv = .slice av mv cv) := ev
 clear c1 hc hok hvl ev
 simp only [EntD.cells] at *
 go_enter Tryz.func36, Tryz.ntmps36
 go_wp2_with fail
 refine HC1.out.mono ?_
 rintro e1 w1 ⟨rfl, hb1⟩
 have B1 := A1.trans (hb1.mono A1.size)
 have bx2 : Hid (EBox w1 w.heap.size e) := bx1.out.later hb1
 have x0 := bx2.out.vr
 have x1 := bx2.out.fam
 have x2 := bx2.out.vq
 have x3 := bx2.out.ts
 have x4 := bx2.out.seq
 have x5 := bx2.out.kind
 have x6 := bx2.out.vv
 clear bx1 hb1 A1 HC1
 go_wp2_with fail
 refine (HC2.out _ (HK.out.later B1)).mono ?_
 rintro e2 w2 ⟨a2, m2, c2, rfl, own2, hb2⟩
 have B2 := B1.trans (hb2.mono B1.size)
 have bx3 : Hid (EBox w2 w.heap.size e) := bx2.out.later hb2
 have R2 := own2.rd HKL.out.1 (by rw [own2.1]; have := HKL.out.2; omega)
 have hw1 : w.heap.size ≤ w1.heap.size := B1.size
 clear own2 hb2 bx2 x0 x1 x2 x3 x4 x5 x6 B1
 go_wp2_with fail
 refine (refBytes_any R2 (by have := HKL.out.2; omega)).mono ?_
 rintro e3 w3 ⟨a3, m3, c3, rfl, own3, hb3⟩
 have B3 := B2.trans (hb3.mono B2.size)
 have x6 : w3.cell? ⟨w.heap.size, 6, none⟩ = some (.slice av mv cv) := by rw [(bx3.out.later hb3).vv, HEV.out]
 have RV := HV.out.1.later B3
 rw [HEV.out] at RV
 have hw2 : w.heap.size ≤ w2.heap.size := B2.size
 have hm3 : m3 ≤ 2010 := by rw [own3.1]; have := bytesL_le (keyL e); have := HKL.out.2; omega
 have hs3 : w2.heap.size ≤ w3.heap.size := hb3.size
 clear bx3 R2 B2 hb3
 go_wp2_with fail
 refine (refBytes_any RV (by have := HV.out.2; omega)).mono ?_
 rintro e4 w4 ⟨a4, m4, c4, rfl, own4, hb4⟩
 have B4 := B3.trans (hb4.mono B3.size)
 have own34 := own3.later hb4
 have r4 := own4.rd (bytesL_bys HV.out.1.1 (by have := HV.out.2; omega)) (by rw [own4.1]; have := bytesL_le e.val; have := HV.out.2; omega)
 have hm4 : m4 ≤ 4106 := by rw [own4.1]; have := bytesL_le e.val; have := HV.out.2; omega
 have hS : w2.heap.size ≤ w4.heap.size := Nat.le_trans hs3 hb4.size
 clear own3 own4 hb4 x6 RV B3
 go_wp2_with (at_builtin; refine wpList_append_at rfl _ _ rfl w2.heap.size a3 m3 c3 _ rfl own34 a4 m4 c4 _ rfl r4 (by omega) hS ?_; intro a5 m5 c5 w5 own5 hb5)
 go_ret2
 exact ⟨a5, m5, c5, rfl, own5.mono hw2, B4.trans (hb5.mono hw2)⟩

end Go.Proofs.YtpabbnddeklpdaaGreat

namespace Go.Proofs.YtpabbnddeklpdaaGreat
open Go.RowKit
set_option linter.unusedVariables false

theorem EBox.fz7 {w : World} {g : Nat} {e : EntD} (h : EBox w g e) : w.frozen? ⟨g, 0, none⟩ = false ∧ w.frozen? ⟨g, 1, none⟩ = false ∧ w.frozen? ⟨g, 2, none⟩ = false ∧ w.frozen? ⟨g, 3, none⟩ = false ∧ w.frozen? ⟨g, 4, none⟩ = false ∧ w.frozen? ⟨g, 5, none⟩ = false ∧ w.frozen? ⟨g, 6, none⟩ = false := ⟨h.fz 0, h.fz 1, h.fz 2, h.fz 3, h.fz 4, h.fz 5, h.fz 6⟩
theorem bytesR_ok (bs : List Nat) (k most : Nat) (hb : Bys bs) : Bys (bytesR bs k most).1 ∧ (bytesR bs k most).1.length ≤ most ∧ (bytesR bs k most).2.1 ≤ bs.length := by
 unfold bytesR
 split
 ·exact ⟨by intro x hx; simp at hx, by simp, by simp⟩
 ·split
  ·exact ⟨by intro x hx; simp at hx, by simp, by simp⟩
  ·split
   ·exact ⟨by intro x hx; simp at hx, by simp, by simp⟩
   ·refine ⟨fun x hx => hb x (List.mem_of_mem_drop (List.mem_of_mem_take hx)), by simp; omega, by simp only; omega⟩
def UnpackedAs (w w' : World) (r : Ending) (K V : List Nat) (E1 P2 E2 : Nat) : Prop :=
 Below w.heap.size w w' ∧
 ((∃ D : EntD, E1 = 0 ∧ E2 = 0 ∧ checkS D = 0 ∧ D.val = V ∧ keyL D = K ∧ Bys D.row ∧ Bys D.qual ∧ r = .returned (.tuple #[.agg D.cells, .int .i64 (P2 : Int), .int .i64 0]) ∧ EntD.Ok w' D) ∨
  (∃ E : Nat, E ≠ 0 ∧ r = .returned (.tuple #[.agg #[.slice none 0 0, .int .i64 0, .slice none 0 0, .int .i64 0, .int .i64 0, .int .i64 0, .slice none 0 0], .int .i64 0, .int .i64 (E : Int)]) ∧ ¬ (E1 = 0 ∧ E2 = 0 ∧ ∃ D : EntD, checkS D = 0 ∧ D.val = V ∧ keyL D = K)))

theorem check_drop {D : EntD} (h : checkS D = 0) (a b c : Value) : checkS ⟨a, D.fam, b, D.ts, D.seq, D.kind, c, D.row, D.qual, []⟩ = 0 := by
 obtain ⟨f1, f2, f3, f4, f5, f6, f7, _, _⟩ := check_facts h
 unfold checkS
 simp only
 rw [if_neg (by omega), if_neg (by omega), if_neg, if_neg (by omega), if_neg (by omega), if_neg (by omega), if_neg (by simp)]
 rintro (h | ⟨h1, h2⟩)
 ·omega
 ·rw [f4 h2] at h1; simp at h1
theorem check_put {D : EntD} (h : checkS D = 0) {V : List Nat} (hV : V.length ≤ 4096) (hk : V = [] ∨ D.kind = 1) (a b c : Value) : checkS ⟨a, D.fam, b, D.ts, D.seq, D.kind, c, D.row, D.qual, V⟩ = 0 := by
 obtain ⟨f1, f2, f3, f4, f5, f6, f7, _, _⟩ := check_facts h
 unfold checkS
 simp only
 rw [if_neg (by omega), if_neg (by omega), if_neg, if_neg (by omega), if_neg (by omega), if_neg (by omega), if_neg]
 ·rintro (h | ⟨h1, h2⟩)
  ·omega
  ·rcases hk with rfl | hk
   ·simp at h1
   ·exact h2 hk
 ·rintro (h | ⟨h1, h2⟩)
  ·omega
  ·rw [f4 h2] at h1; simp at h1
theorem keyL_val (D : EntD) (a b c : Value) (V : List Nat) : keyL ⟨a, D.fam, b, D.ts, D.seq, D.kind, c, D.row, D.qual, V⟩ = keyL D := rfl
theorem kind_of_key {D E : EntD} (hd : checkS D = 0) (he : checkS E = 0) (h : keyL D = keyL E) : D.kind = E.kind := by
 have h8 : (keyL D).getLast? = (keyL E).getLast? := by rw [h]
 obtain ⟨_, _, _, _, _, _, kd, _⟩ := check_facts hd
 obtain ⟨_, _, _, _, _, _, ke, _⟩ := check_facts he
 simp only [keyL, List.getLast?_append, List.getLast?_singleton, Option.some_or, Option.some.injEq] at h8
 omega

end Go.Proofs.YtpabbnddeklpdaaGreat

namespace Go.Proofs.YtpabbnddeklpdaaGreat
open Go.RowKit
set_option linter.unusedVariables false

theorem firstNZ_zero : ∀ (l : List Int), firstNZ l = 0 → ∀ x ∈ l, x = 0
 | [], _ => fun x hx => by simp at hx
 | y :: r, h => fun x hx => by
  unfold firstNZ at h
  by_cases hy : y = 0
  ·rw [if_pos hy] at h
   rcases List.mem_cons.1 hx with rfl | hx
   ·exact hy
   ·exact firstNZ_zero r h x hx
  ·rw [if_neg hy] at h
   exact absurd h hy
theorem cmpI_zero {a b : Int} (h : cmpI a b = 0) : a = b := by
 unfold cmpI at h
 split at h
 ·cases h
 ·split at h
  ·cases h
  ·omega
theorem dif_self {xs : List Nat} {c : Int} (h : Dif xs xs c) : c = 0 := by
 rcases h with ⟨h, _⟩ | ⟨_, p, x, y, r, s, e1, e2, hx⟩ | ⟨_, p, x, y, r, s, e1, e2, hx⟩
 ·exact h
 ·rw [e1] at e2
  have := List.append_cancel_left e2
  simp at this
  omega
 ·rw [e1] at e2
  have := List.append_cancel_left e2
  simp at this
  omega
theorem key_same {a b : EntD} (ha : checkS a = 0) (hb : checkS b = 0) (h : keyL a = keyL b) : a.fam = b.fam ∧ a.ts = b.ts ∧ a.seq = b.seq ∧ a.kind = b.kind ∧ a.row = b.row ∧ a.qual = b.qual := by
 have d := key_dif ha hb
 rw [h] at d
 have z := firstNZ_zero _ (dif_self d)
 refine ⟨cmpI_zero (z _ ?_), (cmpI_zero (z (cmpI b.ts a.ts) ?_)).symm, (cmpI_zero (z (cmpI b.seq a.seq) ?_)).symm, cmpI_zero (z _ ?_), ordC_eq _ _ (z _ ?_), ordC_eq _ _ (z _ ?_)⟩ <;> simp [cmpsS]
theorem keyL_len2 {e : EntD} (hc : checkS e = 0) : (keyL e).length ≤ 1048 := by
 obtain ⟨f1, f, f3, _, t, s, k, _⟩ := check_facts hc
 rw [keyL_parts]
 have l1 := ordL_len e.row
 have l2 := ordL_len e.qual
 have c1 : e.row.count 0 ≤ e.row.length := List.count_le_length
 have c2 : e.qual.count 0 ≤ e.qual.length := List.count_le_length
 split <;> simp [be8] <;> omega
theorem pack_trip {e : EntD} (hc : checkS e = 0) (A H : List Nat) : bytesR ((A ++ packL e) ++ H) A.length 1048 = (keyL e, A.length + (bytesL (keyL e)).length, 0) ∧ bytesR ((A ++ packL e) ++ H) (A.length + (bytesL (keyL e)).length) 4096 = (e.val, A.length + (packL e).length, 0) := by
 have l1 := keyL_len2 hc
 have l2 := (check_facts hc).2.2.2.2.2.2.2.1
 constructor
 ·have := bytes_trip (keyL e) (by omega) 1048 l1 A (bytesL e.val ++ H)
  have e1 : (A ++ packL e) ++ H = A ++ (bytesL (keyL e) ++ (bytesL e.val ++ H)) := by simp [packL]
  rw [e1]; exact this
 ·have := bytes_trip e.val (by omega) 4096 l2 (A ++ bytesL (keyL e)) H
  have e1 : (A ++ packL e) ++ H = (A ++ bytesL (keyL e)) ++ (bytesL e.val ++ H) := by simp [packL]
  rw [e1]
  simp only [List.length_append] at this ⊢
  rw [this]
  simp [packL]
  omega
theorem packL_len6 {e : EntD} (hc : checkS e = 0) : (packL e).length ≤ 6000 := by
 have l1 := keyL_len2 hc
 have l2 := (check_facts hc).2.2.2.2.2.2.2.1
 have := bytesL_le (keyL e)
 have := bytesL_le e.val
 simp only [packL, List.length_append]
 omega
theorem packL_bys {e : EntD} (hr : Bys e.row) (hq : Bys e.qual) (hv : Bys e.val) (hc : checkS e = 0) : Bys (packL e) := by
 have l1 := keyL_len2 hc
 have l2 := (check_facts hc).2.2.2.2.2.2.2.1
 exact Bys.app (bytesL_bys (keyL_bys hr hq hc) (by omega)) (bytesL_bys hv (by omega))

end Go.Proofs.YtpabbnddeklpdaaGreat

namespace Go.Proofs.YtpabbnddeklpdaaGreat
open Go.RowKit
set_option linter.unusedVariables false

def LaidE (w : World) (B : Nat) (D : EntD) : Prop := Laid w B D.vr D.row ∧ Laid w B D.vq D.qual ∧ Laid w B D.vv D.val
theorem LaidE.later {w w' : World} {B : Nat} {D : EntD} (h : LaidE w B D) (hb : Below w.heap.size w w') : LaidE w' B D := ⟨h.1.later hb, h.2.1.later hb, h.2.2.later hb⟩
theorem Laid.mono {w : World} {B B' : Nat} {u : Value} {bs : List Nat} (h : Laid w B u bs) (hB : B' ≤ B) : Laid w B' u bs := by
 obtain ⟨g, c, h1, h2, h3, h4⟩ := h
 exact ⟨g, c, h1, h2, h3, h4.mono hB⟩
theorem LaidE.mono {w : World} {B B' : Nat} {D : EntD} (h : LaidE w B D) (hB : B' ≤ B) : LaidE w B' D := ⟨h.1.mono hB, h.2.1.mono hB, h.2.2.mono hB⟩
def EntD.cut (e : EntD) : EntD := { e with row := e.row.take 5000, qual := e.qual.take 5000, val := e.val.take 5000 }
def EntD.Fine (e : EntD) : Prop := (Bys e.row ∧ e.row.length ≤ 5000) ∧ (Bys e.qual ∧ e.qual.length ≤ 5000) ∧ (Bys e.val ∧ e.val.length ≤ 5000)
theorem EntD.cut_fine {w : World} {e : EntD} (h : EntD.Ok w e) : EntD.Fine e.cut :=
 ⟨⟨fun x hx => h.1.1 x (List.mem_of_mem_take hx), by simp [EntD.cut]; omega⟩, ⟨fun x hx => h.2.1.1 x (List.mem_of_mem_take hx), by simp [EntD.cut]; omega⟩, ⟨fun x hx => h.2.2.1 x (List.mem_of_mem_take hx), by simp [EntD.cut]; omega⟩⟩
theorem EntD.Fine.same {a b : EntD} (h : EntD.Fine b) (s : EntD.Same a b) : EntD.Fine a := by
 unfold EntD.Fine at *
 rw [s.2.2.2.2.1, s.2.2.2.2.2.1, s.2.2.2.2.2.2]; exact h
theorem LaidE.ok {w : World} {B : Nat} {D : EntD} (h : LaidE w B D) (k : EntD.Fine D) : EntD.Ok w D := ⟨h.1.rd k.1.1 (by have := k.1.2; omega), h.2.1.rd k.2.1.1 (by have := k.2.1.2; omega), h.2.2.rd k.2.2.1 (by have := k.2.2.2; omega)⟩
theorem check_same {a b : EntD} (s : EntD.Same a b) : checkS a = checkS b := by
 obtain ⟨h1, h2, h3, h4, h5, h6, h7⟩ := s
 unfold checkS; rw [h1, h2, h3, h4, h5, h6, h7]
theorem keyL_same {a b : EntD} (s : EntD.Same a b) : keyL a = keyL b := by
 obtain ⟨h1, h2, h3, h4, h5, h6, h7⟩ := s
 unfold keyL; rw [h1, h2, h3, h4, h5, h6]
theorem packL_same {a b : EntD} (s : EntD.Same a b) : packL a = packL b := by
 unfold packL; rw [keyL_same s, s.2.2.2.2.2.2]

open Classical in
noncomputable def keyA (e : EntD) : List Nat := if checkS e = 0 then keyL e else []
open Classical in
noncomputable def packA (e : EntD) : List Nat := if checkS e = 0 then packL e else []
theorem keyA_same {a b : EntD} (s : EntD.Same a b) : keyA a = keyA b := by unfold keyA; rw [check_same s, keyL_same s]
theorem packA_same {a b : EntD} (s : EntD.Same a b) : packA a = packA b := by unfold packA; rw [check_same s, packL_same s]
theorem keyA_ok {e : EntD} (h : EntD.Fine e) : Bys (keyA e) ∧ (keyA e).length ≤ 6000 := by
 unfold keyA
 split
 ·rename_i k
  exact ⟨keyL_bys h.1.1 h.2.1.1 k, by have := keyL_len2 k; omega⟩
 ·exact ⟨by intro x hx; simp at hx, by simp⟩
theorem packA_ok {e : EntD} (h : EntD.Fine e) : Bys (packA e) ∧ (packA e).length ≤ 6000 := by
 unfold packA
 split
 ·rename_i k
  exact ⟨packL_bys h.1.1 h.2.1.1 h.2.2.1 k, packL_len6 k⟩
 ·exact ⟨by intro x hx; simp at hx, by simp⟩
theorem key_all {e : EntD} {w : World} (hok : EntD.Ok w e) :
  Calls Tryz.prog 54 #[.agg e.cells] w fun r w' => ∃ a m c, r = .returned (.tuple #[.slice a m c, .int .i64 ((checkS e : Nat) : Int)]) ∧ Own w' w.heap.size (.slice a m c) m (keyA e) ∧ Below w.heap.size w w' := by
 unfold keyA
 by_cases h : checkS e = 0
 ·rw [if_pos h, h]; exact key_ok hok h
 ·rw [if_neg h]
  refine (key_bad hok h).mono ?_
  rintro r w' ⟨rfl, hb⟩
  exact ⟨none, 0, 0, rfl, own_nil _ _, hb⟩
theorem pack_all {e : EntD} {w : World} (hok : EntD.Ok w e) :
  Calls Tryz.prog 37 #[.agg e.cells] w fun r w' => ∃ a m c, r = .returned (.tuple #[.slice a m c, .int .i64 ((checkS e : Nat) : Int)]) ∧ Own w' w.heap.size (.slice a m c) m (packA e) ∧ Below w.heap.size w w' := by
 unfold packA
 by_cases h : checkS e = 0
 ·rw [if_pos h, h]; exact pack_ok hok h
 ·rw [if_neg h]
  refine (pack_bad hok h).mono ?_
  rintro r w' ⟨rfl, hb⟩
  exact ⟨none, 0, 0, rfl, own_nil _ _, hb⟩
theorem refPack_all {e : EntD} {w : World} (hok : EntD.Ok w e) :
  Calls Tryz.prog 36 #[.agg e.cells] w fun r w' => ∃ a m c, r = .returned (.tuple #[.slice a m c, .int .i64 ((checkS e : Nat) : Int)]) ∧ Own w' w.heap.size (.slice a m c) m (packA e) ∧ Below w.heap.size w w' := by
 unfold packA
 by_cases h : checkS e = 0
 ·rw [if_pos h, h]; exact refPack_ok hok h
 ·rw [if_neg h]
  refine (refPack_bad hok h).mono ?_
  rintro r w' ⟨rfl, hb⟩
  exact ⟨none, 0, 0, rfl, own_nil _ _, hb⟩

theorem Laid.put {w : World} {B g i : Nat} {u x : Value} {bs : List Nat} (h : Laid w B u bs) (hg : g < B) : Laid (w.setCell ⟨g, i, none⟩ x) B u bs := by
 obtain ⟨g2, c, h1, h2, h3, h4⟩ := h
 refine ⟨g2, c, h1, h2, h3, h4.1, h4.2.1, ?_⟩
 rcases h4.2.2 with h5 | ⟨g3, cap, cur, h5, h6, h7, h8⟩
 ·exact .inl h5
 ·refine .inr ⟨g3, cap, cur, h5, h6, ?_, h8⟩
  rw [Below.heap_setCell w ⟨g, i, none⟩ x g3 (by simp; omega)]
  exact h7
theorem Laid.form {w : World} {B : Nat} {u : Value} {bs : List Nat} (h : Laid w B u bs) : ∃ a n c, u = .slice a n c := by
 obtain ⟨g, c, h1, _⟩ := h
 exact ⟨_, _, _, h1⟩
theorem Laid.fill {w : World} {B g : Nat} {u : Value} {bs : List Nat} {D : EntD} (h : Laid w B u bs) (hg : g < B) : Laid (filled w g D) B u bs :=
 (((((((h.put hg).put hg).put hg).put hg).put hg).put hg).put hg)

end Go.Proofs.YtpabbnddeklpdaaGreat

namespace Go.Proofs.YtpabbnddeklpdaaGreat
open Go.RowKit Go.Shelf
set_option linter.unusedVariables false

def pk : List EntD → Nat
 | [] => 0
 | e :: es => (packL e).length + pk es
theorem pk_app : ∀ (a b : List EntD), pk (a ++ b) = pk a + pk b
 | [], b => by simp [pk]
 | x :: a, b => by simp only [List.cons_append, pk, pk_app a b]; omega
theorem pk_perm {a b : List EntD} (h : a.Perm b) : pk a = pk b := by
 induction h with
 | nil => rfl
 | cons x _ ih => simp only [pk, ih]
 | swap x y l => simp only [pk]; omega
 | trans _ _ h1 h2 => exact h1.trans h2
theorem pk_sm : ∀ {a b : List EntD}, Sm a b → pk a = pk b
 | [], [], _ => rfl
 | x :: a, y :: b, h => by simp only [pk, packL_same h.1, pk_sm h.2]
 | [], _ :: _, h => h.elim
 | _ :: _, [], h => h.elim
theorem pk_take {xs : List EntD} {i : Nat} {x : EntD} (h : xs[i]? = some x) : pk (xs.take (i + 1)) = pk (xs.take i) + (packL x).length := by
 rw [List.take_add_one, h, pk_app]
 simp [pk]
theorem pk_len : ∀ {xs : List EntD}, (∀ x ∈ xs, (packL x).length ≤ 20000) → pk xs ≤ 20000 * xs.length
 | [], _ => by simp [pk]
 | x :: xs, h => by
  have h1 := h x (by simp)
  have h2 := pk_len (xs := xs) fun y hy => h y (by simp [hy])
  simp only [pk, List.length_cons]
  omega

theorem Sm.symm : ∀ {xs ys : List EntD}, Sm xs ys → Sm ys xs
 | [], [], _ => trivial
 | _ :: _, _ :: _, h => ⟨h.1.symm, Sm.symm h.2⟩
 | [], _ :: _, h => h.elim
 | _ :: _, [], h => h.elim
theorem Sm.trans : ∀ {xs ys zs : List EntD}, Sm xs ys → Sm ys zs → Sm xs zs
 | [], [], [], _, _ => trivial
 | _ :: _, _ :: _, _ :: _, h, k => ⟨h.1.trans k.1, Sm.trans h.2 k.2⟩
 | [], _ :: _, _, h, _ => h.elim
 | _ :: _, [], _, h, _ => h.elim
 | [], [], _ :: _, _, k => k.elim
 | _ :: _, _ :: _, [], _, k => k.elim
theorem Sm.mem : ∀ {xs ys : List EntD}, Sm xs ys → ∀ x ∈ xs, ∃ y ∈ ys, EntD.Same x y
 | [], [], _, x, hx => by simp at hx
 | a :: xs, b :: ys, h, x, hx => by
  rcases List.mem_cons.1 hx with rfl | hx
  ·exact ⟨b, by simp, h.1⟩
  ·obtain ⟨y, hy, k⟩ := Sm.mem h.2 x hx
   exact ⟨y, by simp [hy], k⟩
 | [], _ :: _, h, _, _ => h.elim
 | _ :: _, [], h, _, _ => h.elim
theorem Sm.split : ∀ {A B P : List EntD}, Sm (A ++ B) P → ∃ P1 P2, P = P1 ++ P2 ∧ Sm A P1 ∧ Sm B P2
 | [], B, P, h => ⟨[], P, rfl, trivial, h⟩
 | a :: A, B, p :: P, h => by
  obtain ⟨P1, P2, rfl, h1, h2⟩ := Sm.split (A := A) h.2
  exact ⟨p :: P1, P2, rfl, ⟨h.1, h1⟩, h2⟩
 | _ :: _, _, [], h => h.elim
theorem Sm.app : ∀ {A B P Q : List EntD}, Sm A P → Sm B Q → Sm (A ++ B) (P ++ Q)
 | [], _, [], _, _, k => k
 | _ :: _, _, _ :: _, _, h, k => ⟨h.1, Sm.app h.2 k⟩
 | [], _, _ :: _, _, h, _ => h.elim
 | _ :: _, _, [], _, h, _ => h.elim
theorem Sm.srt : ∀ {xs ys : List EntD}, Sm xs ys → Srt ys → Srt xs
 | [], [], _, _ => List.Pairwise.nil
 | x :: xs, y :: ys, h, k => by
  rw [Srt, List.pairwise_cons] at *
  refine ⟨fun a ha => ?_, Sm.srt h.2 k.2⟩
  obtain ⟨b, hb, s⟩ := Sm.mem h.2 a ha
  rw [compareS_same h.1 s]
  exact k.1 b hb
 | [], _ :: _, h, _ => h.elim
 | _ :: _, [], h, _ => h.elim

theorem srt_perm : ∀ {a b : List EntD}, a.Perm b → Srt a → Srt b → a = b
 | [], b, h, _, _ => by have := h.length_eq; simp at this; exact (List.eq_nil_of_length_eq_zero this.symm).symm
 | x :: a, b, h, ha, hb => by
  cases b with
  | nil => have := h.length_eq; simp at this
  | cons y b =>
   have ha' := ha
   have hb' := hb
   rw [Srt, List.pairwise_cons] at ha hb
   have e : x = y := by
    have hx : x ∈ y :: b := h.subset (by simp)
    have hy : y ∈ x :: a := h.symm.subset (by simp)
    rcases List.mem_cons.1 hx with e | hx
    ·exact e
    ·rcases List.mem_cons.1 hy with e | hy
     ·exact e.symm
     ·have h1 := hb.1 x hx
      have h2 := ha.1 y hy
      have := compareS_swap x y
      omega
   subst e
   rw [srt_perm (List.perm_cons x |>.1 h) ha.2 hb.2]

def Hold (L es : List EntD) : Prop := ∃ P, P.Perm es ∧ Sm L P
theorem Hold.nil : Hold [] [] := ⟨[], .refl _, trivial⟩
theorem Hold.add {A B es : List EntD} {x e : EntD} (h : Hold (A ++ B) es) (hx : EntD.Same x e) : Hold (A ++ x :: B) (es ++ [e]) := by
 obtain ⟨P, hp, hs⟩ := h
 obtain ⟨P1, P2, rfl, h1, h2⟩ := hs.split
 refine ⟨P1 ++ e :: P2, ?_, h1.app ⟨hx, h2⟩⟩
 exact List.perm_middle.trans ((List.Perm.cons e hp).trans (List.perm_append_singleton e es).symm)
theorem Hold.mem {L es : List EntD} (h : Hold L es) : ∀ y ∈ L, ∃ e ∈ es, EntD.Same y e := fun y hy => by
 obtain ⟨P, hp, hs⟩ := h
 obtain ⟨e, he, k⟩ := hs.mem y hy
 exact ⟨e, hp.subset he, k⟩
theorem Hold.len {L es : List EntD} (h : Hold L es) : L.length = es.length := by
 obtain ⟨P, hp, hs⟩ := h
 rw [hs.len, hp.length_eq]
theorem Hold.pk {L es : List EntD} (h : Hold L es) : pk L = pk es := by
 obtain ⟨P, hp, hs⟩ := h
 rw [pk_sm hs, pk_perm hp]
theorem Hold.same {L M es fs : List EntD} (h : Hold L es) (k : Hold M fs) (he : es.Perm fs) (hL : Srt L) (hM : Srt M) : Sm L M := by
 obtain ⟨P, hp, hs⟩ := h
 obtain ⟨Q, hq, ks⟩ := k
 have : P = Q := srt_perm (hp.trans (he.trans hq.symm)) (hs.symm.srt hL) (ks.symm.srt hM)
 subst this
 exact hs.trans ks.symm

def Apt (es : List EntD) : Prop := es.Pairwise fun a b => compareS a b ≠ 0
theorem Apt.snoc {es : List EntD} {e : EntD} (h : Apt es) (k : ∀ x ∈ es, compareS x e ≠ 0) : Apt (es ++ [e]) := by
 rw [Apt, List.pairwise_append]
 exact ⟨h, by simp, fun a ha b hb => by rw [List.mem_singleton.1 hb]; exact k a ha⟩
theorem Apt.perm {es fs : List EntD} (h : Apt es) (p : es.Perm fs) : Apt fs := List.Pairwise.perm h p (fun {x y} k => by rw [compareS_swap x y]; omega)
theorem Apt.fresh {es L : List EntD} {i : Nat} {e : EntD} (h : Apt es) (he : es[i]? = some e) (hl : Hold L (es.take i)) : ¬ ∃ y ∈ L, compareS e y = 0 := by
 rintro ⟨y, hy, h0⟩
 obtain ⟨d, hd, s⟩ := hl.mem y hy
 obtain ⟨j, hj, rfl⟩ := List.mem_iff_getElem.1 hd
 rw [List.length_take] at hj
 obtain ⟨hi, hie⟩ := List.getElem?_eq_some_iff.1 he
 have k := List.pairwise_iff_getElem.1 h j i (by omega) hi (by omega)
 rw [List.getElem_take] at s
 rw [compareS_same (EntD.Same.rfl' e) s, ← hie, compareS_swap] at h0
 omega

def oth (r : Nat) (es : List EntD) : List EntD := (es.take r).reverse ++ (es.drop r).reverse
theorem oth_perm (r : Nat) (es : List EntD) : (oth r es).Perm es := by
 have h := (List.reverse_perm (es.take r)).append (List.reverse_perm (es.drop r))
 rwa [List.take_append_drop] at h
theorem oth_len (r : Nat) (es : List EntD) : (oth r es).length = es.length := (oth_perm r es).length_eq
theorem oth_get {r i : Nat} {es : List EntD} (hr : r ≤ es.length) (hi : i < es.length) : (oth r es)[i]? = es[(r + es.length - 1 - i) % es.length]? := by
 unfold oth
 by_cases h : i < r
 ·rw [List.getElem?_append_left (by simp; omega), List.getElem?_reverse (by simp; omega), List.length_take, List.getElem?_take, if_pos (by omega)]
  congr 1
  have : r + es.length - 1 - i = (r - 1 - i) + es.length := by omega
  rw [this, Nat.add_mod_right, Nat.mod_eq_of_lt (by omega)]
  omega
 ·rw [List.getElem?_append_right (by simp; omega), List.getElem?_reverse (by simp; omega), List.getElem?_drop]
  congr 1
  have : r + es.length - 1 - i < es.length := by omega
  rw [Nat.mod_eq_of_lt this]
  simp only [List.length_drop, List.length_reverse, List.length_take]
  omega
end Go.Proofs.YtpabbnddeklpdaaGreat

namespace Go.Proofs.YtpabbnddeklpdaaGreat
open Go.RowKit
set_option linter.unusedVariables false

set_option maxRecDepth 100000 in
theorem refFirst_any (a b : Bool) (w : World) : Calls Tryz.prog 50 #[.bool a, .bool b] w fun e w' => e = .returned (.int .i64 (cmpI (if a then 0 else 1) (if b then 0 else 1))) ∧ w' = w := by
 cases a <;> cases b <;>
 ·go_enter Tryz.func50, Tryz.ntmps50
  go_wp2
  go_ret
  exact ⟨rfl, rfl⟩

theorem refFirst_ahead {a b : EntD} (k : Int) {p q : Bool} (hp : p = true ↔ a.kind = k) (hq : q = true ↔ b.kind = k) (w : World) : Calls Tryz.prog 50 #[.bool p, .bool q] w fun e w' => e = .returned (.int .i64 (aheadS a b k)) ∧ w' = w := by
 have h := refFirst_any p q w
 have e : cmpI (if p = true then 0 else 1) (if q = true then 0 else 1) = aheadS a b k := by
  unfold aheadS mark
  by_cases h1 : a.kind = k <;> by_cases h2 : b.kind = k <;> simp [h1, h2, hp, hq]
 rw [e] at h
 exact h

end Go.Proofs.YtpabbnddeklpdaaGreat

namespace Go.Proofs.YtpabbnddeklpdaaGreat
open Go.RowKit
set_option linter.unusedVariables false

set_option maxRecDepth 100000 in
set_option maxHeartbeats 8000000 in
theorem refCompare_any {a b : EntD} {w : World} (ha : EntD.Ok w a) (hb : EntD.Ok w b) :
  Calls Tryz.prog 34 #[.agg a.cells, .agg b.cells] w fun r w' => r = .returned (.int .i64 (compareS a b)) ∧ Below w.heap.size w w' := by
 have A1 := (Below.refl w.heap.size w).alloc (Nat.le_refl _) (.cells a.cells 38)
 have A2 := A1.alloc A1.size (.cells b.cells 38)
 have bxa0 := (EBox.new w a).later ((Below.refl (w.alloc (.cells a.cells 38)).heap.size (w.alloc (.cells a.cells 38))).alloc (Nat.le_refl _) (.cells b.cells 38))
 have bxb0 := EBox.new (w.alloc (.cells a.cells 38)) b
 rw [World.size_alloc] at bxb0
 have HX : Hid (EBox ((w.alloc (.cells a.cells 38)).alloc (.cells b.cells 38)) w.heap.size a ∧ EBox ((w.alloc (.cells a.cells 38)).alloc (.cells b.cells 38)) (w.heap.size + 1) b ∧ Below w.heap.size w ((w.alloc (.cells a.cells 38)).alloc (.cells b.cells 38))) := ⟨bxa0, bxb0, A2⟩
 have HA : Hid (EntD.Ok w a) := ha
 have HB : Hid (EntD.Ok w b) := hb
 have HCS : Hid (compareS a b = firstNZ (cmpsS a b)) := rfl
 clear A1 A2 bxa0 bxb0 ha hb
 simp only [EntD.cells] at HX ⊢
 obtain ⟨W, hW⟩ : ∃ W, W = ((w.alloc (.cells #[a.vr, .int .i64 a.fam, a.vq, .int .i64 a.ts, .int .i64 a.seq, .int .i64 a.kind, a.vv] 38)).alloc (.cells #[b.vr, .int .i64 b.fam, b.vq, .int .i64 b.ts, .int .i64 b.seq, .int .i64 b.kind, b.vv] 38)) := ⟨_, rfl⟩
 rw [← hW] at HX
 have KS : Hid (∀ wx, Below W.heap.size W wx → (wx.cell? ⟨w.heap.size, 0, none⟩ = some a.vr ∧ wx.cell? ⟨w.heap.size, 1, none⟩ = some (.int .i64 a.fam) ∧ wx.cell? ⟨w.heap.size, 2, none⟩ = some a.vq ∧ wx.cell? ⟨w.heap.size, 3, none⟩ = some (.int .i64 a.ts) ∧ wx.cell? ⟨w.heap.size, 4, none⟩ = some (.int .i64 a.seq) ∧ wx.cell? ⟨w.heap.size, 5, none⟩ = some (.int .i64 a.kind)) ∧ (wx.cell? ⟨w.heap.size + 1, 0, none⟩ = some b.vr ∧ wx.cell? ⟨w.heap.size + 1, 1, none⟩ = some (.int .i64 b.fam) ∧ wx.cell? ⟨w.heap.size + 1, 2, none⟩ = some b.vq ∧ wx.cell? ⟨w.heap.size + 1, 3, none⟩ = some (.int .i64 b.ts) ∧ wx.cell? ⟨w.heap.size + 1, 4, none⟩ = some (.int .i64 b.seq) ∧ wx.cell? ⟨w.heap.size + 1, 5, none⟩ = some (.int .i64 b.kind))) := fun wx h => by
  have e1 := HX.out.1.later h
  have e2 := HX.out.2.1.later h
  exact ⟨⟨e1.vr, e1.fam, e1.vq, e1.ts, e1.seq, e1.kind⟩, ⟨e2.vr, e2.fam, e2.vq, e2.ts, e2.seq, e2.kind⟩⟩
 have D0 : Below W.heap.size W W.drew := (Below.refl _ _).drew
 have RA : Hid (∀ wx, Below W.heap.size W wx → EntD.Ok wx a ∧ EntD.Ok wx b) := fun wx h => ⟨(HA.out.later HX.out.2.2).later h, (HB.out.later HX.out.2.2).later h⟩
 go_enter Tryz.func34, Tryz.ntmps34
 go_wp2_with fail
 rw [← hW]
 clear hW
 go_region_held3 (fun wx => (wx.cell? ⟨w.heap.size, 0, none⟩ = some a.vr ∧ wx.cell? ⟨w.heap.size, 1, none⟩ = some (.int .i64 a.fam) ∧ wx.cell? ⟨w.heap.size, 2, none⟩ = some a.vq ∧ wx.cell? ⟨w.heap.size, 3, none⟩ = some (.int .i64 a.ts) ∧ wx.cell? ⟨w.heap.size, 4, none⟩ = some (.int .i64 a.seq) ∧ wx.cell? ⟨w.heap.size, 5, none⟩ = some (.int .i64 a.kind)) ∧ (wx.cell? ⟨w.heap.size + 1, 0, none⟩ = some b.vr ∧ wx.cell? ⟨w.heap.size + 1, 1, none⟩ = some (.int .i64 b.fam) ∧ wx.cell? ⟨w.heap.size + 1, 2, none⟩ = some b.vq ∧ wx.cell? ⟨w.heap.size + 1, 3, none⟩ = some (.int .i64 b.ts) ∧ wx.cell? ⟨w.heap.size + 1, 4, none⟩ = some (.int .i64 b.seq) ∧ wx.cell? ⟨w.heap.size + 1, 5, none⟩ = some (.int .i64 b.kind)))
  (first | exact KS.out _ D0 | exact KS.out _ DD1 | exact KS.out _ DD2 | exact KS.out _ (DD2.alloc DD2.size _))
  (first
   | (go_at_call 49; refine (refNumber_any _ _ _).mono ?_; rintro e wn ⟨rfl, rfl⟩)
   | (go_at_call 50; have _t := T5.out; refine (refFirst_ahead (a := a) (b := b) 4 (by simp) (by simp) _).mono ?_; rintro e wn ⟨rfl, rfl⟩)
   | (go_at_call 50; refine (refFirst_ahead (a := a) (b := b) 5 (by simp) (by simp) _).mono ?_; rintro e wn ⟨rfl, rfl⟩; have T5 : Hid True := trivial)
   | (go_at_call 48; refine (refBytesOrd_any (RA.out _ DD1).1.2.1 (RA.out _ DD1).2.2.1).mono ?_; rintro e4 w4 ⟨rfl, hb4⟩; have DD2 := DD1.trans (hb4.mono DD1.size))
   | (go_at_call 48; refine (refBytesOrd_any (RA.out _ D0).1.1 (RA.out _ D0).2.1).mono ?_; rintro e3 w3 ⟨rfl, hb3⟩; have DD1 := D0.trans (hb3.mono D0.size)))
 have DW := HX.out.2.2.trans (DD2.mono HX.out.2.2.size)
 have DA := DW.alloc DW.size (.cells #[.int .i64 (ordC a.row b.row), .int .i64 (cmpI a.fam b.fam), .int .i64 (aheadS a b 5), .int .i64 (ordC a.qual b.qual), .int .i64 (aheadS a b 4), .int .i64 (cmpI b.ts a.ts), .int .i64 (cmpI b.seq a.seq), .int .i64 (cmpI a.kind b.kind)] 3)
 obtain ⟨U, hU⟩ : ∃ U, U = wn.alloc (.cells #[.int .i64 (ordC a.row b.row), .int .i64 (cmpI a.fam b.fam), .int .i64 (aheadS a b 5), .int .i64 (ordC a.qual b.qual), .int .i64 (aheadS a b 4), .int .i64 (cmpI b.ts a.ts), .int .i64 (cmpI b.seq a.seq), .int .i64 (cmpI a.kind b.kind)] 3) := ⟨_, rfl⟩
 have HCL : Hid (∀ t, t < 8 → U.cell? ⟨wn.heap.size, t, none⟩ = some (.int .i64 ((cmpsS a b).getD t 0))) := fun t ht => by
  have hh : U.heap[wn.heap.size]? = some (.cells #[.int .i64 (ordC a.row b.row), .int .i64 (cmpI a.fam b.fam), .int .i64 (aheadS a b 5), .int .i64 (ordC a.qual b.qual), .int .i64 (aheadS a b 4), .int .i64 (cmpI b.ts a.ts), .int .i64 (cmpI b.seq a.seq), .int .i64 (cmpI a.kind b.kind)] 3) := by rw [hU]; exact heap_new wn _
  have hc : ∀ j, U.cell? ⟨wn.heap.size, j, none⟩ = (#[.int .i64 (ordC a.row b.row), .int .i64 (cmpI a.fam b.fam), .int .i64 (aheadS a b 5), .int .i64 (ordC a.qual b.qual), .int .i64 (aheadS a b 4), .int .i64 (cmpI b.ts a.ts), .int .i64 (cmpI b.seq a.seq), .int .i64 (cmpI a.kind b.kind)] : Array Value)[j]? := fun j => by simp [World.cell?, hh]
  rw [hc]
  match t, ht with
  | 0, _ => rfl
  | 1, _ => rfl
  | 2, _ => rfl
  | 3, _ => rfl
  | 4, _ => rfl
  | 5, _ => rfl
  | 6, _ => rfl
  | 7, _ => rfl
 rw [← hU] at DA ⊢
 have HDA := Lib.hid DA
 have HLL : Hid ((cmpsS a b).length = 8) := rfl
 obtain ⟨l, hl⟩ : ∃ l, l = cmpsS a b := ⟨_, rfl⟩
 rw [← hl] at HCL HLL HCS
 obtain ⟨G, hG⟩ : ∃ G, G = wn.heap.size := ⟨_, rfl⟩
 rw [← hG] at HCL ⊢
 clear DA DW hU DD1 DD2 KS RA D0 HX HA HB hl hG
 rename_i hXX
 clear hXX
 go_wp2
 go_loopw [6] (fun i wr => ∃ t : Nat, t ≤ 8 ∧ i = .int .i64 (t : Int) ∧ Hid (∀ j, j < t → l.getD j 0 = 0) ∧ wr = U) (fun i _ => 8 - (intOf i).toNat)
 case atStart => exact ⟨0, by omega, rfl, fun j hj => by omega, rfl⟩
 case round =>
  obtain ⟨t, ht, rfl, hz, rfl⟩ := hrel
  by_cases hlt : t < 8
  ·have hlt2 : (t : Int) < 8 := by omega
   have ht0 : (0 : Int) ≤ (t : Int) := by omega
   have ct := HCL.out t hlt
   obtain ⟨v, hv⟩ : ∃ v, v = l.getD t 0 := ⟨_, rfl⟩
   rw [← hv] at ct
   have HV := Lib.hid hv
   clear hv
   by_cases h0 : v = 0
   ·subst h0
    go_wp2
    go_roundw
    case rel => exact ⟨t + 1, by omega, by go_num, fun j hj => by
     by_cases hjt : j = t
     ·subst hjt; exact HV.out.symm
     ·exact hz.out j (by omega), trivial⟩
    case measure => simp [intOf]; omega
   ·have h1 : (v != 0) = true := by simpa using h0
    have h2 : (v == 0) = false := by simpa using h0
    have HR : Hid (compareS a b = v) := by unfold Hid; rw [HCS.out, firstNZ_at l t hz.out (by rw [← HV.out]; exact h0)]; exact HV.out.symm
    go_wp2
    go_ret
    rw [HR.out]
    exact ⟨rfl, HDA.out⟩
  ·have hge : (8 : Int) ≤ (t : Int) := by omega
   obtain rfl : t = 8 := by omega
   have HR : Hid (compareS a b = 0) := by unfold Hid; rw [HCS.out]; exact firstNZ_none l (fun j hj => hz.out j (by rw [HLL.out] at hj; exact hj))
   go_wp2
   go_ret
   rw [HR.out]
   exact ⟨rfl, HDA.out⟩

end Go.Proofs.YtpabbnddeklpdaaGreat

namespace Go.Proofs.YtpabbnddeklpdaaGreat
open Go.RowKit Go.Shelf
set_option linter.unusedVariables false

theorem tbytes_any {w : World} {t : Nat} {p : Option Addr} {n k : Int} {f : Bool} (h : TBox w t p n k f) : Calls Tryz.prog 13 #[.pointer (some ⟨t, 0, none⟩)] w fun e w' => e = .returned (.int .i64 k) ∧ w' = w := by
 have hc := h.cells
 go_enter Tryz.func13, Tryz.ntmps13
 obtain ⟨c0, c1, c2, c3, c4⟩ := hc
 go_wp2
 go_ret
 exact ⟨rfl, rfl⟩

structure A1 (w : World) (t : Nat) (X : World) : Prop where
 a : TBox X t none 0 0 false
 b : TBox X (t + 1) none 0 0 false
 lo : w.heap.size ≤ t
 below : Below w.heap.size w X
theorem A1.lt {w X : World} {t : Nat} (h : A1 w t X) : t + 2 ≤ X.heap.size := h.b.lt
theorem A1.later {w X Y : World} {t : Nat} (h : A1 w t X) (b : Below X.heap.size X Y) : A1 w t Y := ⟨h.a.later b, h.b.later b, h.lo, h.below.trans (b.mono h.below.size)⟩
theorem A1.grown {w X Y : World} {t : Nat} {row : Option Nat} (h : A1 w t X) (g : X.grownBy Y row) (hr : ∀ r, row = some r → t + 2 ≤ r) : A1 w t Y := by
 have k : ∀ i, i < t + 2 → Y.heap[i]? = X.heap[i]? := fun i hi => g.block i (Nat.lt_of_lt_of_le hi h.lt) (fun e => by have := hr i e.symm; omega)
 exact ⟨(k t (by omega)).trans h.a, (k (t + 1) (by omega)).trans h.b, h.lo, ⟨g.os.trans h.below.os, g.tape.trans h.below.tape, g.output.trans h.below.output, Nat.le_trans h.below.size g.size, fun i hi => (k i (by have := h.lo; omega)).trans (h.below.block i hi)⟩⟩
structure A2 (w : World) (t : Nat) (v : Value) (es : List EntD) (X : World) : Prop where
 tabs : A1 w t X
 row : X.ownsRow (t + 2) 38 7 v es.length (evals es)
 apt : Apt es
 good : ∀ e ∈ es, EntD.Ok w e ∧ checkS e = 0
theorem A2.later {w X Y : World} {t : Nat} {v : Value} {es : List EntD} (h : A2 w t v es X) (b : Below X.heap.size X Y) : A2 w t v es Y := ⟨h.tabs.later b, ownsRow_below h.row b, h.apt, h.good⟩
theorem A2.slice {w X : World} {t : Nat} {v : Value} {es : List EntD} (h : A2 w t v es X) : ∃ a c, v = .slice a es.length c := by
 rcases h.row.2 with ⟨rfl, h0⟩ | ⟨g, cap, cur, rfl, _⟩
 ·exact ⟨none, 0, by rw [h0]⟩
 ·exact ⟨_, _, rfl⟩
structure A3 (w : World) (t : Nat) (v : Value) (es La Lb : List EntD) (X : World) : Prop where
 a : Tb (fun i => t + 1 < i) X t La ((pk La : Nat) : Int) false
 b : Tb (fun i => t + 1 < i) X (t + 1) Lb ((pk Lb : Nat) : Int) false
 row : X.ownsRow (t + 2) 38 7 v es.length (evals es)
 lo : w.heap.size ≤ t
 sz : t + 2 ≤ X.heap.size
 below : Below w.heap.size w X
theorem A3.of {w X : World} {t : Nat} {v : Value} {es : List EntD} (h : A2 w t v es X) : A3 w t v es [] [] X :=
 ⟨⟨by omega, List.Pairwise.nil, by simp, by simp [pk], none, .leaf, h.tabs.a, rfl, rfl⟩, ⟨by omega, List.Pairwise.nil, by simp, by simp [pk], none, .leaf, h.tabs.b, rfl, rfl⟩, h.row, h.tabs.lo, h.tabs.lt, h.tabs.below⟩
theorem A3.later {w X Y : World} {t : Nat} {v : Value} {es La Lb : List EntD} (h : A3 w t v es La Lb X) (b : Below X.heap.size X Y) : A3 w t v es La Lb Y :=
 ⟨h.a.later b, h.b.later b, ownsRow_below h.row b, h.lo, Nat.le_trans h.sz b.size, h.below.trans (b.mono h.below.size)⟩
theorem Tb.apart {G : Nat → Prop} {w w' : World} {t u : Nat} {L : List EntD} {k : Int} {f : Bool} (h : Tb G w t L k f) (hu : ¬ G u) (hne : t ≠ u) (ha : Apart u w w') : Tb G w' t L k f := by
 obtain ⟨p, T, h1, h2, h3⟩ := h.tree
 exact ⟨h.not, h.srt, h.good, h.few, p, T, (ha.block _ h1.lt hne).trans h1, h2.kept (KpG.of_apart ha hu), h3⟩
theorem pk_ins (A B : List EntD) {x e : EntD} (h : EntD.Same x e) : pk (A ++ x :: B) = pk (A ++ B) + (packL e).length := by
 rw [pk_app, pk_app, pk, packL_same h]
 omega
theorem A3.addA {w X : World} {t : Nat} {v : Value} {es La Lb ds : List EntD} {e : EntD} (h : A3 w t v es La Lb X) (he : EntD.Ok X e) (hc : checkS e = 0) (hf : ¬ ∃ y ∈ La, compareS e y = 0) (hl : La.length < 1000) (hd : Hold La ds) :
  Calls Tryz.prog 19 #[.pointer (some ⟨t, 0, none⟩), .agg e.cells] X fun z X' => z = .returned (.int .i64 0) ∧ ∃ La', A3 w t v es La' Lb X' ∧ Hold La' (ds ++ [e]) := by
 have hlo := h.lo
 have hsz := h.sz
 refine (add_tb h.a he (fun i hi => by omega) (by omega)).mono ?_
 rintro z X' ⟨c, rfl, hap, hh⟩
 rcases hh with ⟨h1, h2, h3⟩ | ⟨rfl, h1, h2, h3, A, B, x, rfl, h5, h6⟩
 ·exact absurd (h3 hc rfl).1 hf
 ·refine ⟨rfl, A ++ x :: B, ⟨?_, h.b.apart (by omega) (by omega) hap, ownsRow_apart h.row hap (by omega), h.lo, Nat.le_trans h.sz hap.size, h.below.trans (hap.below (by omega) h.below.size)⟩, hd.add h5⟩
  rw [pk_ins A B h5]
  exact h6
theorem A3.addB {w X : World} {t : Nat} {v : Value} {es La Lb ds : List EntD} {e : EntD} (h : A3 w t v es La Lb X) (he : EntD.Ok X e) (hc : checkS e = 0) (hf : ¬ ∃ y ∈ Lb, compareS e y = 0) (hl : Lb.length < 1000) (hd : Hold Lb ds) :
  Calls Tryz.prog 19 #[.pointer (some ⟨t + 1, 0, none⟩), .agg e.cells] X fun z X' => z = .returned (.int .i64 0) ∧ ∃ Lb', A3 w t v es La Lb' X' ∧ Hold Lb' (ds ++ [e]) := by
 have hlo := h.lo
 have hsz := h.sz
 refine (add_tb h.b he (fun i hi => by omega) (by omega)).mono ?_
 rintro z X' ⟨c, rfl, hap, hh⟩
 rcases hh with ⟨h1, h2, h3⟩ | ⟨rfl, h1, h2, h3, A, B, x, rfl, h5, h6⟩
 ·exact absurd (h3 hc rfl).1 hf
 ·refine ⟨rfl, A ++ x :: B, ⟨h.a.apart (by omega) (by omega) hap, ?_, ownsRow_apart h.row hap (by omega), h.lo, Nat.le_trans h.sz hap.size, h.below.trans (hap.below (by omega) h.below.size)⟩, hd.add h5⟩
  rw [pk_ins A B h5]
  exact h6
theorem row_slice {B s n : Nat} {e : TypeId} {v : Value} {xs : List Value} {w : World} (hs : 0 < s) (h : w.ownsRow B e s v n xs) : ∃ a c, v = .slice a n c := by
 rcases h.2 with ⟨rfl, h0⟩ | ⟨g, cap, cur, rfl, _⟩
 ·exact ⟨none, 0, by rw [h0]⟩
 ·exact ⟨_, _, rfl⟩
structure A4 (w : World) (t : Nat) (xv yv : Value) (xs ys : List EntD) (k : Int) (X : World) : Prop where
 rx : ∃ B, X.ownsRow B 38 7 xv xs.length (evals xs)
 ry : ∃ B, X.ownsRow B 38 7 yv ys.length (evals ys)
 ox : ∀ x ∈ xs, EntD.Ok X x
 oy : ∀ y ∈ ys, EntD.Ok X y
 ta : ∃ p n, TBox X t p n k false
 below : Below w.heap.size w X
theorem A4.later {w X Y : World} {t : Nat} {xv yv : Value} {xs ys : List EntD} {k : Int} (h : A4 w t xv yv xs ys k X) (b : Below X.heap.size X Y) : A4 w t xv yv xs ys k Y := by
 obtain ⟨B1, h1⟩ := h.rx
 obtain ⟨B2, h2⟩ := h.ry
 obtain ⟨p, n, h3⟩ := h.ta
 exact ⟨⟨B1, ownsRow_below h1 b⟩, ⟨B2, ownsRow_below h2 b⟩, fun x hx => (h.ox x hx).later b, fun x hx => (h.oy x hx).later b, ⟨p, n, h3.later b⟩, h.below.trans (b.mono h.below.size)⟩
theorem any_facts {w X : World} {t r : Nat} {v : Value} {es La Lb xs ys : List EntD} (h : A3 w t v es La Lb X) (ha : Hold La es) (hb : Hold Lb (oth r es)) (hx : Sm xs La) (hy : Sm ys Lb) :
  xs.length = es.length ∧ ys.length = es.length ∧ La.length = es.length ∧ Lb.length = es.length ∧ pk Lb = pk La ∧ pk xs = pk La ∧ Sm xs ys ∧ Srt xs ∧ (∀ x ∈ xs, checkS x = 0) := by
 have l1 := ha.len
 have l2 := hb.len
 rw [oth_len] at l2
 have sm : Sm La Lb := ha.same hb (oth_perm r es).symm h.a.srt h.b.srt
 refine ⟨by rw [hx.len, l1], by rw [hy.len, l2], l1, l2, by rw [hb.pk, ha.pk, pk_perm (oth_perm r es)], pk_sm hx, (hx.trans sm).trans hy.symm, hx.srt h.a.srt, fun x hxm => ?_⟩
 obtain ⟨y, hym, k⟩ := hx.mem x hxm
 rw [checkS_same k]
 exact h.a.good y hym
end Go.Proofs.YtpabbnddeklpdaaGreat
