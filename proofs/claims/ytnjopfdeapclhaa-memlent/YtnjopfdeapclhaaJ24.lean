import Derived.Test.YtnjopfdeapclhaaJ23
import Derived.Test.YtnjopfdeapclhaaJ07
namespace Go.Proofs.Ytnjopfdeapclhaa
open Go.RowKit
set_option linter.unusedVariables false

set_option maxRecDepth 100000 in
set_option maxHeartbeats 4000000 in
theorem refkey_any {e : EntD} {w : World} (hok : EntD.Ok w e) (hc : checkS e = 0) :
    Calls Try.prog 80 #[.agg e.cells] w fun r w' => ∃ a m c, r = .returned (.slice a m c) ∧ Own w' w.heap.size (.slice a m c) m (keyL e) ∧ Below w.heap.size w w' := by
  obtain ⟨f1, f2, f3, f4, f5, f6, f7, _, _⟩ := check_facts hc
  have A1 := (Below.refl w.heap.size w).alloc (Nat.le_refl _) (.cells e.cells 30)
  have bx1 : Hid (EBox (w.alloc (.cells e.cells 30)) w.heap.size e) := EBox.new w e
  obtain ⟨vr, fam, vq, ts, seq, kind, vv, row, qual, val⟩ := e
  obtain ⟨h1, h2, h3⟩ := hok
  simp only [EntD.cells] at *
  obtain ⟨fm, rfl⟩ := Int.eq_ofNat_of_zero_le f2.1
  obtain ⟨t, rfl⟩ := Int.eq_ofNat_of_zero_le (show 0 ≤ ts by omega)
  obtain ⟨sq, rfl⟩ := Int.eq_ofNat_of_zero_le f6.1
  obtain ⟨kd, rfl⟩ := Int.eq_ofNat_of_zero_le (show 0 ≤ kind by omega)
  have HOR : Hid ((ordL row).length ≤ 514 ∧ Bys (ordL row)) := ⟨by have := ordL_len row; have : row.count 0 ≤ row.length := List.count_le_length; omega, ordL_bys row h1.1⟩
  have HOQ : Hid ((ordL qual).length ≤ 514 ∧ Bys (ordL qual)) := ⟨by have := ordL_len qual; have : qual.count 0 ≤ qual.length := List.count_le_length; omega, ordL_bys qual h2.1⟩
  have hfm : fm < 8 := by omega
  have hkd : kd ≤ 5 := by omega
  have hts : t < 9223372036854775808 := by omega
  have hsq : sq < 9223372036854775808 := by omega
  have em1 : (fm : Int) % 256 = (fm : Int) := by omega
  have em2 : (kd : Int) % 256 = (kd : Int) := by omega
  have HRR : Hid (Rd w vr row) := h1
  have HRQ : Hid (Rd w vq qual) := h2
  clear h1 h2 h3 f1 f2 f3 f5 f6 f7 f4 hc
  go_enter Try.func80, Try.ntmps80
  go_wp2_with fail
  refine (refOrdered_any (HRR.out.later A1) (by have := HOR.out.1; omega)).mono ?_
  rintro e1 w1 ⟨a1, m1, c1, rfl, own1x, hb1⟩
  have B1 := A1.trans (hb1.mono A1.size)
  have bxw1 : Hid (EBox w1 w.heap.size _) := bx1.out.later hb1
  have hG : w.heap.size < w.heap.size + 1 := by omega
  have own1 : Own w1 (w.heap.size + 1) (.slice a1 m1 c1) m1 (ordL row) := by simpa using own1x
  have hS1 : w.heap.size + 1 ≤ w1.heap.size := by have := hb1.size; simpa using this
  have hm1 : m1 ≤ 514 := by rw [own1.1]; exact HOR.out.1
  clear hb1 bx1 own1x A1
  have xfam1 := bxw1.out.fam
  simp only at xfam1
  go_wp2_with (at_builtin; refine wpList_append_new rfl _ _ rfl (w.heap.size + 1) a1 m1 c1 _ rfl own1 [_] 1 rfl [fm] (by first | rfl | (simp [bv]; done) | (simp [bv]; omega)) rfl (by omega) hS1 ?_; intro a2 m2 c2 w2 own2 hb2; refine Hid.out ?_)
  refine Lib.hid ?_
  have hm2 : m2 ≤ 515 := by rw [own2.1, List.length_append, ← own1.1]; simp; omega
  have bxw2 : Hid (EBox w2 w.heap.size _) := bxw1.out.keep hb2 hG
  have B2 := B1.trans (hb2.mono (Nat.le_of_lt hG))
  have hS2 : w.heap.size + 1 ≤ w2.heap.size := Nat.le_trans hS1 hb2.size
  clear bxw1 B1 hS1 hb2 own1 hm1
  clear xfam1
  by_cases hk5 : kd = 5
  · have HKL : Hid (keyL ⟨vr, (fm : Int), vq, (t : Int), (sq : Int), (kd : Int), vv, row, qual, val⟩ = ((((ordL row ++ [fm]) ++ [0]) ++ be8 (9223372036854775807 - t)) ++ be8 (9223372036854775807 - sq)) ++ [kd]) := by
      unfold Hid keyL mark
      have : (kd : Int) = 5 := by omega
      simp [this]
      omega
    have hkn : ((kd : Int) == 5) = true := by simp; omega
    have xkind2 := bxw2.out.kind
    simp only at xkind2
    go_wp2_with (at_builtin; refine wpList_append_new rfl _ _ rfl (w.heap.size + 1) a2 m2 c2 _ rfl own2 [_] 1 rfl [0] (by first | rfl | (simp [bv]; done) | (simp [bv]; omega)) rfl (by omega) hS2 ?_; intro a3 m3 c3 w3 own3 hb3; refine Hid.out ?_)
    refine Lib.hid ?_
    have hm3 : m3 ≤ 516 := by rw [own3.1, List.length_append, ← own2.1]; simp; omega
    have bxw3 : Hid (EBox w3 w.heap.size _) := bxw2.out.keep hb3 hG
    have B3 := B2.trans (hb3.mono (Nat.le_of_lt hG))
    have hS3 : w.heap.size + 1 ≤ w3.heap.size := Nat.le_trans hS2 hb3.size
    clear bxw2 B2 hS2 hb3 own2 hm2
    clear xkind2
    have xts3 := bxw3.out.ts
    simp only at xts3
    go_wp2_with fail
    refine (refFalling_any t hts _).mono ?_
    rintro e7 w7 ⟨a7, m7, c7, rfl, own7, hb7⟩
    have hm7 : m7 = 8 := own7.1
    subst hm7
    have r7 : Rd w7 (.slice a7 8 c7) _ := own7.rd (be8_bys _) (by omega)
    have own67 := own3.later hb7
    have bxw7 : Hid (EBox w7 w.heap.size _) := bxw3.out.later hb7
    have B7 := B3.trans (hb7.mono B3.size)
    have hS7 : w.heap.size + 1 ≤ w7.heap.size := Nat.le_trans hS3 hb7.size
    clear bxw3 B3 hS3 hb7 own3 own7 xts3
    have xseq7 := bxw7.out.seq
    simp only at xseq7
    go_wp2_with fail
    refine (refFalling_any sq hsq _).mono ?_
    rintro e8 w8 ⟨a8, m8, c8, rfl, own8, hb8⟩
    have hm8 : m8 = 8 := own8.1
    subst hm8
    have r78 := r7.later hb8
    have own68 := own67.later hb8
    have HLT : Hid (∀ g, (Value.slice a3 m3 c3).ownBlock = some g → g < w7.heap.size) := fun g hg => (own67.2.lt g hg).2
    have bxw8 : Hid (EBox w8 w.heap.size _) := bxw7.out.later hb8
    have B8 := B7.trans (hb8.mono B7.size)
    have hS8 : w.heap.size + 1 ≤ w8.heap.size := Nat.le_trans hS7 hb8.size
    have R8 : Hid (Own w8 w7.heap.size (.slice a8 8 c8) 8 (be8 (9223372036854775807 - sq)) ∧ Below w7.heap.size w7 w8) := ⟨own8, hb8⟩
    clear bxw7 B7 hb8 own67 own8 xseq7 r7
    go_wp2_with (at_builtin; refine wpList_append_gr rfl _ _ rfl (w.heap.size + 1) a3 m3 c3 _ rfl own68 a7 8 c7 _ rfl r78 (by omega) hS8 ?_; intro a9 m9 c9 w9 own9 hb9 gr9; refine Hid.out ?_)
    refine Lib.hid ?_
    have hm9 : m9 ≤ 524 := by rw [own9.1, List.length_append, ← own68.1]; simp [be8]; omega
    have r9 : Rd w9 (.slice a8 8 c8) _ := (R8.out.1.grown gr9 HLT.out).rd (be8_bys _) (by omega)
    have bxw9 : Hid (EBox w9 w.heap.size _) := bxw8.out.keep hb9 hG
    have B9 := B8.trans (hb9.mono (Nat.le_of_lt hG))
    have hS9 : w.heap.size + 1 ≤ w9.heap.size := Nat.le_trans hS8 hb9.size
    clear bxw8 B8 hS8 hb9 own68 r78 R8 HLT gr9 hS7 hm3
    go_wp2_with (at_builtin; refine wpList_append_at rfl _ _ rfl (w.heap.size + 1) a9 m9 c9 _ rfl own9 a8 8 c8 _ rfl r9 (by omega) hS9 ?_; intro a10 m10 c10 w10 own10 hb10; refine Hid.out ?_)
    refine Lib.hid ?_
    have hm10 : m10 ≤ 532 := by rw [own10.1, List.length_append, ← own9.1]; simp [be8]; omega
    have bxw10 : Hid (EBox w10 w.heap.size _) := bxw9.out.keep hb10 hG
    have B10 := B9.trans (hb10.mono (Nat.le_of_lt hG))
    have hS10 : w.heap.size + 1 ≤ w10.heap.size := Nat.le_trans hS9 hb10.size
    clear bxw9 B9 hS9 hb10 own9 r9 hm9
    have xkind10 := bxw10.out.kind
    simp only at xkind10
    go_wp2_with (at_builtin; refine wpList_append_new rfl _ _ rfl (w.heap.size + 1) a10 m10 c10 _ rfl own10 [_] 1 rfl [kd] (by first | rfl | (simp [bv]; done) | (simp [bv]; omega)) rfl (by omega) hS10 ?_; intro a11 m11 c11 w11 own11 hb11)
    go_ret
    refine ⟨a11, m11, c11, rfl, ?_, B10.trans (hb11.mono (Nat.le_of_lt hG))⟩
    rw [HKL.out]
    exact own11.mono (Nat.le_of_lt hG)
  by_cases hk4c : kd = 4
  · have HKL : Hid (keyL ⟨vr, (fm : Int), vq, (t : Int), (sq : Int), (kd : Int), vv, row, qual, val⟩ = ((((((ordL row ++ [fm]) ++ [1]) ++ ordL qual) ++ [0]) ++ be8 (9223372036854775807 - t)) ++ be8 (9223372036854775807 - sq)) ++ [kd]) := by
      unfold Hid keyL mark
      have h4 : (kd : Int) = 4 := by omega
      simp [h4]
      omega
    have hkn : ((kd : Int) == 5) = false := by simp; omega
    have hk4 : ((kd : Int) == 4) = true := by simp; omega
    have xkind2 := bxw2.out.kind
    simp only at xkind2
    go_wp2_with (at_builtin; refine wpList_append_new rfl _ _ rfl (w.heap.size + 1) a2 m2 c2 _ rfl own2 [_] 1 rfl [1] (by first | rfl | (simp [bv]; done) | (simp [bv]; omega)) rfl (by omega) hS2 ?_; intro a3 m3 c3 w3 own3 hb3; refine Hid.out ?_)
    refine Lib.hid ?_
    have hm3 : m3 ≤ 516 := by rw [own3.1, List.length_append, ← own2.1]; simp; omega
    have bxw3 : Hid (EBox w3 w.heap.size _) := bxw2.out.keep hb3 hG
    have B3 := B2.trans (hb3.mono (Nat.le_of_lt hG))
    have hS3 : w.heap.size + 1 ≤ w3.heap.size := Nat.le_trans hS2 hb3.size
    clear bxw2 B2 hS2 hb3 own2 hm2
    clear xkind2
    have xvq3 := bxw3.out.vq
    simp only at xvq3
    go_wp2_with fail
    refine (refOrdered_any (HRQ.out.later B3) (by have := HOQ.out.1; omega)).mono ?_
    rintro e4 w4 ⟨a4, m4, c4, rfl, own4, hb4⟩
    have hm4 : m4 ≤ 514 := by rw [own4.1]; exact HOQ.out.1
    have r4 : Rd w4 (.slice a4 m4 c4) _ := own4.rd HOQ.out.2 (by omega)
    have own34 := own3.later hb4
    have bxw4 : Hid (EBox w4 w.heap.size _) := bxw3.out.later hb4
    have B4 := B3.trans (hb4.mono B3.size)
    have hS4 : w.heap.size + 1 ≤ w4.heap.size := Nat.le_trans hS3 hb4.size
    have HL4 : Hid (m4 = (ordL qual).length) := own4.1
    clear bxw3 B3 hS3 hb4 own3 own4 xvq3
    go_wp2_with (at_builtin; refine wpList_append_at rfl _ _ rfl (w.heap.size + 1) a3 m3 c3 _ rfl own34 a4 m4 c4 _ rfl r4 (by omega) hS4 ?_; intro a5 m5 c5 w5 own5 hb5; refine Hid.out ?_)
    refine Lib.hid ?_
    have hm5 : m5 ≤ 1030 := by rw [own5.1, List.length_append, ← own34.1, ← HL4.out]; omega
    have bxw5 : Hid (EBox w5 w.heap.size _) := bxw4.out.keep hb5 hG
    have B5 := B4.trans (hb5.mono (Nat.le_of_lt hG))
    have hS5 : w.heap.size + 1 ≤ w5.heap.size := Nat.le_trans hS4 hb5.size
    clear bxw4 B4 hS4 hb5 own34 r4 hm3 hm4 HL4
    have xkind5 := bxw5.out.kind
    simp only at xkind5
    go_wp2_with (at_builtin; refine wpList_append_new rfl _ _ rfl (w.heap.size + 1) a5 m5 c5 _ rfl own5 [_] 1 rfl [0] (by first | rfl | (simp [bv]; done) | (simp [bv]; omega)) rfl (by omega) hS5 ?_; intro a6 m6 c6 w6 own6 hb6; refine Hid.out ?_)
    refine Lib.hid ?_
    have hm6 : m6 ≤ 1031 := by rw [own6.1, List.length_append, ← own5.1]; simp; omega
    have bxw6 : Hid (EBox w6 w.heap.size _) := bxw5.out.keep hb6 hG
    have B6 := B5.trans (hb6.mono (Nat.le_of_lt hG))
    have hS6 : w.heap.size + 1 ≤ w6.heap.size := Nat.le_trans hS5 hb6.size
    clear bxw5 B5 hS5 hb6 own5 hm5
    clear xkind5
    have xts6 := bxw6.out.ts
    simp only at xts6
    go_wp2_with fail
    refine (refFalling_any t hts _).mono ?_
    rintro e7 w7 ⟨a7, m7, c7, rfl, own7, hb7⟩
    have hm7 : m7 = 8 := own7.1
    subst hm7
    have r7 : Rd w7 (.slice a7 8 c7) _ := own7.rd (be8_bys _) (by omega)
    have own67 := own6.later hb7
    have bxw7 : Hid (EBox w7 w.heap.size _) := bxw6.out.later hb7
    have B7 := B6.trans (hb7.mono B6.size)
    have hS7 : w.heap.size + 1 ≤ w7.heap.size := Nat.le_trans hS6 hb7.size
    clear bxw6 B6 hS6 hb7 own6 own7 xts6
    have xseq7 := bxw7.out.seq
    simp only at xseq7
    go_wp2_with fail
    refine (refFalling_any sq hsq _).mono ?_
    rintro e8 w8 ⟨a8, m8, c8, rfl, own8, hb8⟩
    have hm8 : m8 = 8 := own8.1
    subst hm8
    have r78 := r7.later hb8
    have own68 := own67.later hb8
    have HLT : Hid (∀ g, (Value.slice a6 m6 c6).ownBlock = some g → g < w7.heap.size) := fun g hg => (own67.2.lt g hg).2
    have bxw8 : Hid (EBox w8 w.heap.size _) := bxw7.out.later hb8
    have B8 := B7.trans (hb8.mono B7.size)
    have hS8 : w.heap.size + 1 ≤ w8.heap.size := Nat.le_trans hS7 hb8.size
    have R8 : Hid (Own w8 w7.heap.size (.slice a8 8 c8) 8 (be8 (9223372036854775807 - sq)) ∧ Below w7.heap.size w7 w8) := ⟨own8, hb8⟩
    clear bxw7 B7 hb8 own67 own8 xseq7 r7
    go_wp2_with (at_builtin; refine wpList_append_gr rfl _ _ rfl (w.heap.size + 1) a6 m6 c6 _ rfl own68 a7 8 c7 _ rfl r78 (by omega) hS8 ?_; intro a9 m9 c9 w9 own9 hb9 gr9; refine Hid.out ?_)
    refine Lib.hid ?_
    have hm9 : m9 ≤ 1039 := by rw [own9.1, List.length_append, ← own68.1]; simp [be8]; omega
    have r9 : Rd w9 (.slice a8 8 c8) _ := (R8.out.1.grown gr9 HLT.out).rd (be8_bys _) (by omega)
    have bxw9 : Hid (EBox w9 w.heap.size _) := bxw8.out.keep hb9 hG
    have B9 := B8.trans (hb9.mono (Nat.le_of_lt hG))
    have hS9 : w.heap.size + 1 ≤ w9.heap.size := Nat.le_trans hS8 hb9.size
    clear bxw8 B8 hS8 hb9 own68 r78 R8 HLT gr9 hS7 hm6
    go_wp2_with (at_builtin; refine wpList_append_at rfl _ _ rfl (w.heap.size + 1) a9 m9 c9 _ rfl own9 a8 8 c8 _ rfl r9 (by omega) hS9 ?_; intro a10 m10 c10 w10 own10 hb10; refine Hid.out ?_)
    refine Lib.hid ?_
    have hm10 : m10 ≤ 1047 := by rw [own10.1, List.length_append, ← own9.1]; simp [be8]; omega
    have bxw10 : Hid (EBox w10 w.heap.size _) := bxw9.out.keep hb10 hG
    have B10 := B9.trans (hb10.mono (Nat.le_of_lt hG))
    have hS10 : w.heap.size + 1 ≤ w10.heap.size := Nat.le_trans hS9 hb10.size
    clear bxw9 B9 hS9 hb10 own9 r9 hm9
    have xkind10 := bxw10.out.kind
    simp only at xkind10
    go_wp2_with (at_builtin; refine wpList_append_new rfl _ _ rfl (w.heap.size + 1) a10 m10 c10 _ rfl own10 [_] 1 rfl [kd] (by first | rfl | (simp [bv]; done) | (simp [bv]; omega)) rfl (by omega) hS10 ?_; intro a11 m11 c11 w11 own11 hb11)
    go_ret
    refine ⟨a11, m11, c11, rfl, ?_, B10.trans (hb11.mono (Nat.le_of_lt hG))⟩
    rw [HKL.out]
    exact own11.mono (Nat.le_of_lt hG)
  · have HKL : Hid (keyL ⟨vr, (fm : Int), vq, (t : Int), (sq : Int), (kd : Int), vv, row, qual, val⟩ = ((((((ordL row ++ [fm]) ++ [1]) ++ ordL qual) ++ [1]) ++ be8 (9223372036854775807 - t)) ++ be8 (9223372036854775807 - sq)) ++ [kd]) := by
      unfold Hid keyL mark
      have h4 : ¬ ((kd : Int) = 4) := by omega
      have h5 : ¬ ((kd : Int) = 5) := by omega
      simp [h4, h5]
    have hkn : ((kd : Int) == 5) = false := by simp; omega
    have hk4 : ((kd : Int) == 4) = false := by simp; omega
    have xkind2 := bxw2.out.kind
    simp only at xkind2
    go_wp2_with (at_builtin; refine wpList_append_new rfl _ _ rfl (w.heap.size + 1) a2 m2 c2 _ rfl own2 [_] 1 rfl [1] (by first | rfl | (simp [bv]; done) | (simp [bv]; omega)) rfl (by omega) hS2 ?_; intro a3 m3 c3 w3 own3 hb3; refine Hid.out ?_)
    refine Lib.hid ?_
    have hm3 : m3 ≤ 516 := by rw [own3.1, List.length_append, ← own2.1]; simp; omega
    have bxw3 : Hid (EBox w3 w.heap.size _) := bxw2.out.keep hb3 hG
    have B3 := B2.trans (hb3.mono (Nat.le_of_lt hG))
    have hS3 : w.heap.size + 1 ≤ w3.heap.size := Nat.le_trans hS2 hb3.size
    clear bxw2 B2 hS2 hb3 own2 hm2
    clear xkind2
    have xvq3 := bxw3.out.vq
    simp only at xvq3
    go_wp2_with fail
    refine (refOrdered_any (HRQ.out.later B3) (by have := HOQ.out.1; omega)).mono ?_
    rintro e4 w4 ⟨a4, m4, c4, rfl, own4, hb4⟩
    have hm4 : m4 ≤ 514 := by rw [own4.1]; exact HOQ.out.1
    have r4 : Rd w4 (.slice a4 m4 c4) _ := own4.rd HOQ.out.2 (by omega)
    have own34 := own3.later hb4
    have bxw4 : Hid (EBox w4 w.heap.size _) := bxw3.out.later hb4
    have B4 := B3.trans (hb4.mono B3.size)
    have hS4 : w.heap.size + 1 ≤ w4.heap.size := Nat.le_trans hS3 hb4.size
    have HL4 : Hid (m4 = (ordL qual).length) := own4.1
    clear bxw3 B3 hS3 hb4 own3 own4 xvq3
    go_wp2_with (at_builtin; refine wpList_append_at rfl _ _ rfl (w.heap.size + 1) a3 m3 c3 _ rfl own34 a4 m4 c4 _ rfl r4 (by omega) hS4 ?_; intro a5 m5 c5 w5 own5 hb5; refine Hid.out ?_)
    refine Lib.hid ?_
    have hm5 : m5 ≤ 1030 := by rw [own5.1, List.length_append, ← own34.1, ← HL4.out]; omega
    have bxw5 : Hid (EBox w5 w.heap.size _) := bxw4.out.keep hb5 hG
    have B5 := B4.trans (hb5.mono (Nat.le_of_lt hG))
    have hS5 : w.heap.size + 1 ≤ w5.heap.size := Nat.le_trans hS4 hb5.size
    clear bxw4 B4 hS4 hb5 own34 r4 hm3 hm4 HL4
    have xkind5 := bxw5.out.kind
    simp only at xkind5
    go_wp2_with (at_builtin; refine wpList_append_new rfl _ _ rfl (w.heap.size + 1) a5 m5 c5 _ rfl own5 [_] 1 rfl [1] (by first | rfl | (simp [bv]; done) | (simp [bv]; omega)) rfl (by omega) hS5 ?_; intro a6 m6 c6 w6 own6 hb6; refine Hid.out ?_)
    refine Lib.hid ?_
    have hm6 : m6 ≤ 1031 := by rw [own6.1, List.length_append, ← own5.1]; simp; omega
    have bxw6 : Hid (EBox w6 w.heap.size _) := bxw5.out.keep hb6 hG
    have B6 := B5.trans (hb6.mono (Nat.le_of_lt hG))
    have hS6 : w.heap.size + 1 ≤ w6.heap.size := Nat.le_trans hS5 hb6.size
    clear bxw5 B5 hS5 hb6 own5 hm5
    clear xkind5
    have xts6 := bxw6.out.ts
    simp only at xts6
    go_wp2_with fail
    refine (refFalling_any t hts _).mono ?_
    rintro e7 w7 ⟨a7, m7, c7, rfl, own7, hb7⟩
    have hm7 : m7 = 8 := own7.1
    subst hm7
    have r7 : Rd w7 (.slice a7 8 c7) _ := own7.rd (be8_bys _) (by omega)
    have own67 := own6.later hb7
    have bxw7 : Hid (EBox w7 w.heap.size _) := bxw6.out.later hb7
    have B7 := B6.trans (hb7.mono B6.size)
    have hS7 : w.heap.size + 1 ≤ w7.heap.size := Nat.le_trans hS6 hb7.size
    clear bxw6 B6 hS6 hb7 own6 own7 xts6
    have xseq7 := bxw7.out.seq
    simp only at xseq7
    go_wp2_with fail
    refine (refFalling_any sq hsq _).mono ?_
    rintro e8 w8 ⟨a8, m8, c8, rfl, own8, hb8⟩
    have hm8 : m8 = 8 := own8.1
    subst hm8
    have r78 := r7.later hb8
    have own68 := own67.later hb8
    have HLT : Hid (∀ g, (Value.slice a6 m6 c6).ownBlock = some g → g < w7.heap.size) := fun g hg => (own67.2.lt g hg).2
    have bxw8 : Hid (EBox w8 w.heap.size _) := bxw7.out.later hb8
    have B8 := B7.trans (hb8.mono B7.size)
    have hS8 : w.heap.size + 1 ≤ w8.heap.size := Nat.le_trans hS7 hb8.size
    have R8 : Hid (Own w8 w7.heap.size (.slice a8 8 c8) 8 (be8 (9223372036854775807 - sq)) ∧ Below w7.heap.size w7 w8) := ⟨own8, hb8⟩
    clear bxw7 B7 hb8 own67 own8 xseq7 r7
    go_wp2_with (at_builtin; refine wpList_append_gr rfl _ _ rfl (w.heap.size + 1) a6 m6 c6 _ rfl own68 a7 8 c7 _ rfl r78 (by omega) hS8 ?_; intro a9 m9 c9 w9 own9 hb9 gr9; refine Hid.out ?_)
    refine Lib.hid ?_
    have hm9 : m9 ≤ 1039 := by rw [own9.1, List.length_append, ← own68.1]; simp [be8]; omega
    have r9 : Rd w9 (.slice a8 8 c8) _ := (R8.out.1.grown gr9 HLT.out).rd (be8_bys _) (by omega)
    have bxw9 : Hid (EBox w9 w.heap.size _) := bxw8.out.keep hb9 hG
    have B9 := B8.trans (hb9.mono (Nat.le_of_lt hG))
    have hS9 : w.heap.size + 1 ≤ w9.heap.size := Nat.le_trans hS8 hb9.size
    clear bxw8 B8 hS8 hb9 own68 r78 R8 HLT gr9 hS7 hm6
    go_wp2_with (at_builtin; refine wpList_append_at rfl _ _ rfl (w.heap.size + 1) a9 m9 c9 _ rfl own9 a8 8 c8 _ rfl r9 (by omega) hS9 ?_; intro a10 m10 c10 w10 own10 hb10; refine Hid.out ?_)
    refine Lib.hid ?_
    have hm10 : m10 ≤ 1047 := by rw [own10.1, List.length_append, ← own9.1]; simp [be8]; omega
    have bxw10 : Hid (EBox w10 w.heap.size _) := bxw9.out.keep hb10 hG
    have B10 := B9.trans (hb10.mono (Nat.le_of_lt hG))
    have hS10 : w.heap.size + 1 ≤ w10.heap.size := Nat.le_trans hS9 hb10.size
    clear bxw9 B9 hS9 hb10 own9 r9 hm9
    have xkind10 := bxw10.out.kind
    simp only at xkind10
    go_wp2_with (at_builtin; refine wpList_append_new rfl _ _ rfl (w.heap.size + 1) a10 m10 c10 _ rfl own10 [_] 1 rfl [kd] (by first | rfl | (simp [bv]; done) | (simp [bv]; omega)) rfl (by omega) hS10 ?_; intro a11 m11 c11 w11 own11 hb11)
    go_ret
    refine ⟨a11, m11, c11, rfl, ?_, B10.trans (hb11.mono (Nat.le_of_lt hG))⟩
    rw [HKL.out]
    exact own11.mono (Nat.le_of_lt hG)

set_option maxRecDepth 100000 in
set_option maxHeartbeats 4000000 in
theorem refPack_bad {e : EntD} {w : World} (hok : EntD.Ok w e) (hc : checkS e ≠ 0) :
    Calls Try.prog 53 #[.agg e.cells] w fun r w' => r = .returned (.tuple #[.slice none 0 0, .int .i64 ((checkS e : Nat) : Int)]) ∧ Below w.heap.size w w' := by
  obtain ⟨C, hC⟩ : ∃ C, C = checkS e := ⟨_, rfl⟩
  have A1 := (Below.refl w.heap.size w).alloc (Nat.le_refl _) (.cells e.cells 30)
  have c1 := refCheck_any (hok.later A1)
  rw [← hC] at c1 hc ⊢
  have HC1 : Hid (Calls _ _ _ _ _) := c1
  have h0 : ((C : Int) != 0) = true := by simp; omega
  have h1 : ¬ ((C : Int) = 0) := by omega
  clear c1 hC hok
  simp only [EntD.cells] at *
  go_enter Try.func53, Try.ntmps53
  go_wp2_with fail
  refine HC1.out.mono ?_
  rintro e1 w1 ⟨rfl, hb1⟩
  have B1 := A1.trans (hb1.mono A1.size)
  go_wp2
  go_ret2
  exact ⟨rfl, B1⟩

set_option maxRecDepth 100000 in
set_option maxHeartbeats 4000000 in
theorem refPack_ok {e : EntD} {w : World} (hok : EntD.Ok w e) (hc : checkS e = 0) :
    Calls Try.prog 53 #[.agg e.cells] w fun r w' => ∃ a m c, r = .returned (.tuple #[.slice a m c, .int .i64 0]) ∧ Own w' w.heap.size (.slice a m c) m (packL e) ∧ Below w.heap.size w w' := by
  have hvl : e.val.length ≤ 4096 := (check_facts hc).2.2.2.2.2.2.2.1
  have A1 := (Below.refl w.heap.size w).alloc (Nat.le_refl _) (.cells e.cells 30)
  have bx1 : Hid (EBox (w.alloc (.cells e.cells 30)) w.heap.size e) := EBox.new w e
  have c1 := refCheck_any (hok.later A1)
  rw [hc] at c1
  have HC1 : Hid (Calls _ _ _ _ _) := c1
  have HC2 : Hid (∀ w', EntD.Ok w' e → Calls Try.prog 80 #[.agg e.cells] w' fun r w'' => ∃ a m c, r = .returned (.slice a m c) ∧ Own w'' w'.heap.size (.slice a m c) m (keyL e) ∧ Below w'.heap.size w' w'') := fun w' h => refkey_any h hc
  have HKL : Hid (Bys (keyL e) ∧ (keyL e).length ≤ 2000) := ⟨keyL_bys hok.1.1 hok.2.1.1 hc, keyL_len hc⟩
  have HV : Hid (Rd w e.vv e.val ∧ e.val.length ≤ 4096) := ⟨hok.2.2, hvl⟩
  have HK : Hid (EntD.Ok w e) := hok
  obtain ⟨av, mv, cv, ev⟩ := rd_slice hok.2.2
  have HEV : Hid (e.vv = .slice av mv cv) := ev
  clear c1 hc hok hvl ev
  simp only [EntD.cells] at *
  go_enter Try.func53, Try.ntmps53
  go_wp2_with fail
  refine HC1.out.mono ?_
  rintro e1 w1 ⟨rfl, hb1⟩
  have B1 := A1.trans (hb1.mono A1.size)
  have bx2 : Hid (EBox w1 w.heap.size e) := bx1.out.later hb1
  have x0 := bx2.out.vr
  have x1 := bx2.out.fam
  have x2 := bx2.out.vq
  have x3 := bx2.out.ts
  have x4 := bx2.out.seq
  have x5 := bx2.out.kind
  have x6 := bx2.out.vv
  clear bx1 hb1 A1 HC1
  go_wp2_with fail
  refine (HC2.out _ (HK.out.later B1)).mono ?_
  rintro e2 w2 ⟨a2, m2, c2, rfl, own2, hb2⟩
  have B2 := B1.trans (hb2.mono B1.size)
  have bx3 : Hid (EBox w2 w.heap.size e) := bx2.out.later hb2
  have R2 := own2.rd HKL.out.1 (by rw [own2.1]; have := HKL.out.2; omega)
  have hw1 : w.heap.size ≤ w1.heap.size := B1.size
  clear own2 hb2 bx2 x0 x1 x2 x3 x4 x5 x6 B1
  go_wp2_with fail
  refine (refBytes_any R2 (by have := HKL.out.2; omega)).mono ?_
  rintro e3 w3 ⟨a3, m3, c3, rfl, own3, hb3⟩
  have B3 := B2.trans (hb3.mono B2.size)
  have x6 : w3.cell? ⟨w.heap.size, 6, none⟩ = some (.slice av mv cv) := by rw [(bx3.out.later hb3).vv, HEV.out]
  have RV := HV.out.1.later B3
  rw [HEV.out] at RV
  have hw2 : w.heap.size ≤ w2.heap.size := B2.size
  have hm3 : m3 ≤ 2010 := by rw [own3.1]; have := bytesL_le (keyL e); have := HKL.out.2; omega
  have hs3 : w2.heap.size ≤ w3.heap.size := hb3.size
  clear bx3 R2 B2 hb3
  go_wp2_with fail
  refine (refBytes_any RV (by have := HV.out.2; omega)).mono ?_
  rintro e4 w4 ⟨a4, m4, c4, rfl, own4, hb4⟩
  have B4 := B3.trans (hb4.mono B3.size)
  have own34 := own3.later hb4
  have r4 := own4.rd (bytesL_bys HV.out.1.1 (by have := HV.out.2; omega)) (by rw [own4.1]; have := bytesL_le e.val; have := HV.out.2; omega)
  have hm4 : m4 ≤ 4106 := by rw [own4.1]; have := bytesL_le e.val; have := HV.out.2; omega
  have hS : w2.heap.size ≤ w4.heap.size := Nat.le_trans hs3 hb4.size
  clear own3 own4 hb4 x6 RV B3
  go_wp2_with (at_builtin; refine wpList_append_at rfl _ _ rfl w2.heap.size a3 m3 c3 _ rfl own34 a4 m4 c4 _ rfl r4 (by omega) hS ?_; intro a5 m5 c5 w5 own5 hb5)
  go_ret2
  exact ⟨a5, m5, c5, rfl, own5.mono hw2, B4.trans (hb5.mono hw2)⟩

end Go.Proofs.Ytnjopfdeapclhaa

namespace Go.Proofs.Ytnjopfdeapclhaa
open Go.RowKit
set_option linter.unusedVariables false

theorem EBox.fz7 {w : World} {g : Nat} {e : EntD} (h : EBox w g e) : w.frozen? ⟨g, 0, none⟩ = false ∧ w.frozen? ⟨g, 1, none⟩ = false ∧ w.frozen? ⟨g, 2, none⟩ = false ∧ w.frozen? ⟨g, 3, none⟩ = false ∧ w.frozen? ⟨g, 4, none⟩ = false ∧ w.frozen? ⟨g, 5, none⟩ = false ∧ w.frozen? ⟨g, 6, none⟩ = false := ⟨h.fz 0, h.fz 1, h.fz 2, h.fz 3, h.fz 4, h.fz 5, h.fz 6⟩
theorem bytesR_ok (bs : List Nat) (k most : Nat) (hb : Bys bs) : Bys (bytesR bs k most).1 ∧ (bytesR bs k most).1.length ≤ most ∧ (bytesR bs k most).2.1 ≤ bs.length := by
  unfold bytesR
  split
  · exact ⟨by intro x hx; simp at hx, by simp, by simp⟩
  · split
    · exact ⟨by intro x hx; simp at hx, by simp, by simp⟩
    · split
      · exact ⟨by intro x hx; simp at hx, by simp, by simp⟩
      · refine ⟨fun x hx => hb x (List.mem_of_mem_drop (List.mem_of_mem_take hx)), by simp; omega, by simp only; omega⟩
/-- What Unpack answers. -/
def UnpackedAs (w w' : World) (r : Ending) (K V : List Nat) (E1 P2 E2 : Nat) : Prop :=
  Below w.heap.size w w' ∧
  ((∃ D : EntD, E1 = 0 ∧ E2 = 0 ∧ checkS D = 0 ∧ D.val = V ∧ keyL D = K ∧ Bys D.row ∧ Bys D.qual ∧ r = .returned (.tuple #[.agg D.cells, .int .i64 (P2 : Int), .int .i64 0]) ∧ EntD.Ok w' D) ∨
   (∃ E : Nat, E ≠ 0 ∧ r = .returned (.tuple #[.agg #[.slice none 0 0, .int .i64 0, .slice none 0 0, .int .i64 0, .int .i64 0, .int .i64 0, .slice none 0 0], .int .i64 0, .int .i64 (E : Int)]) ∧ ¬ (E1 = 0 ∧ E2 = 0 ∧ ∃ D : EntD, checkS D = 0 ∧ D.val = V ∧ keyL D = K)))

theorem check_drop {D : EntD} (h : checkS D = 0) (a b c : Value) : checkS ⟨a, D.fam, b, D.ts, D.seq, D.kind, c, D.row, D.qual, []⟩ = 0 := by
  obtain ⟨f1, f2, f3, f4, f5, f6, f7, _, _⟩ := check_facts h
  unfold checkS
  simp only
  rw [if_neg (by omega), if_neg (by omega), if_neg, if_neg (by omega), if_neg (by omega), if_neg (by omega), if_neg (by simp)]
  rintro (h | ⟨h1, h2⟩)
  · omega
  · rw [f4 h2] at h1; simp at h1
theorem check_put {D : EntD} (h : checkS D = 0) {V : List Nat} (hV : V.length ≤ 4096) (hk : V = [] ∨ D.kind = 1) (a b c : Value) : checkS ⟨a, D.fam, b, D.ts, D.seq, D.kind, c, D.row, D.qual, V⟩ = 0 := by
  obtain ⟨f1, f2, f3, f4, f5, f6, f7, _, _⟩ := check_facts h
  unfold checkS
  simp only
  rw [if_neg (by omega), if_neg (by omega), if_neg, if_neg (by omega), if_neg (by omega), if_neg (by omega), if_neg]
  · rintro (h | ⟨h1, h2⟩)
    · omega
    · rcases hk with rfl | hk
      · simp at h1
      · exact h2 hk
  · rintro (h | ⟨h1, h2⟩)
    · omega
    · rw [f4 h2] at h1; simp at h1
theorem keyL_val (D : EntD) (a b c : Value) (V : List Nat) : keyL ⟨a, D.fam, b, D.ts, D.seq, D.kind, c, D.row, D.qual, V⟩ = keyL D := rfl
theorem kind_of_key {D E : EntD} (hd : checkS D = 0) (he : checkS E = 0) (h : keyL D = keyL E) : D.kind = E.kind := by
  have h8 : (keyL D).getLast? = (keyL E).getLast? := by rw [h]
  obtain ⟨_, _, _, _, _, _, kd, _⟩ := check_facts hd
  obtain ⟨_, _, _, _, _, _, ke, _⟩ := check_facts he
  simp only [keyL, List.getLast?_append, List.getLast?_singleton, Option.some_or, Option.some.injEq] at h8
  omega

end Go.Proofs.Ytnjopfdeapclhaa

namespace Go.Proofs.Ytnjopfdeapclhaa
open Go.RowKit
set_option linter.unusedVariables false

theorem firstNZ_zero : ∀ (l : List Int), firstNZ l = 0 → ∀ x ∈ l, x = 0
  | [], _ => fun x hx => by simp at hx
  | y :: r, h => fun x hx => by
    unfold firstNZ at h
    by_cases hy : y = 0
    · rw [if_pos hy] at h
      rcases List.mem_cons.1 hx with rfl | hx
      · exact hy
      · exact firstNZ_zero r h x hx
    · rw [if_neg hy] at h
      exact absurd h hy
theorem cmpI_zero {a b : Int} (h : cmpI a b = 0) : a = b := by
  unfold cmpI at h
  split at h
  · cases h
  · split at h
    · cases h
    · omega
theorem dif_self {xs : List Nat} {c : Int} (h : Dif xs xs c) : c = 0 := by
  rcases h with ⟨h, _⟩ | ⟨_, p, x, y, r, s, e1, e2, hx⟩ | ⟨_, p, x, y, r, s, e1, e2, hx⟩
  · exact h
  · rw [e1] at e2
    have := List.append_cancel_left e2
    simp at this
    omega
  · rw [e1] at e2
    have := List.append_cancel_left e2
    simp at this
    omega
theorem key_same {a b : EntD} (ha : checkS a = 0) (hb : checkS b = 0) (h : keyL a = keyL b) : a.fam = b.fam ∧ a.ts = b.ts ∧ a.seq = b.seq ∧ a.kind = b.kind ∧ a.row = b.row ∧ a.qual = b.qual := by
  have d := key_dif ha hb
  rw [h] at d
  have z := firstNZ_zero _ (dif_self d)
  refine ⟨cmpI_zero (z _ ?_), (cmpI_zero (z (cmpI b.ts a.ts) ?_)).symm, (cmpI_zero (z (cmpI b.seq a.seq) ?_)).symm, cmpI_zero (z _ ?_), ordC_eq _ _ (z _ ?_), ordC_eq _ _ (z _ ?_)⟩ <;> simp [cmpsS]
theorem keyL_len2 {e : EntD} (hc : checkS e = 0) : (keyL e).length ≤ 1048 := by
  obtain ⟨f1, f, f3, _, t, s, k, _⟩ := check_facts hc
  rw [keyL_parts]
  have l1 := ordL_len e.row
  have l2 := ordL_len e.qual
  have c1 : e.row.count 0 ≤ e.row.length := List.count_le_length
  have c2 : e.qual.count 0 ≤ e.qual.length := List.count_le_length
  split <;> simp [be8] <;> omega
theorem pack_trip {e : EntD} (hc : checkS e = 0) (A H : List Nat) : bytesR ((A ++ packL e) ++ H) A.length 1048 = (keyL e, A.length + (bytesL (keyL e)).length, 0) ∧ bytesR ((A ++ packL e) ++ H) (A.length + (bytesL (keyL e)).length) 4096 = (e.val, A.length + (packL e).length, 0) := by
  have l1 := keyL_len2 hc
  have l2 := (check_facts hc).2.2.2.2.2.2.2.1
  constructor
  · have := bytes_trip (keyL e) (by omega) 1048 l1 A (bytesL e.val ++ H)
    have e1 : (A ++ packL e) ++ H = A ++ (bytesL (keyL e) ++ (bytesL e.val ++ H)) := by simp [packL]
    rw [e1]; exact this
  · have := bytes_trip e.val (by omega) 4096 l2 (A ++ bytesL (keyL e)) H
    have e1 : (A ++ packL e) ++ H = (A ++ bytesL (keyL e)) ++ (bytesL e.val ++ H) := by simp [packL]
    rw [e1]
    simp only [List.length_append] at this ⊢
    rw [this]
    simp [packL]
    omega
theorem packL_len6 {e : EntD} (hc : checkS e = 0) : (packL e).length ≤ 6000 := by
  have l1 := keyL_len2 hc
  have l2 := (check_facts hc).2.2.2.2.2.2.2.1
  have := bytesL_le (keyL e)
  have := bytesL_le e.val
  simp only [packL, List.length_append]
  omega
theorem packL_bys {e : EntD} (hr : Bys e.row) (hq : Bys e.qual) (hv : Bys e.val) (hc : checkS e = 0) : Bys (packL e) := by
  have l1 := keyL_len2 hc
  have l2 := (check_facts hc).2.2.2.2.2.2.2.1
  exact Bys.app (bytesL_bys (keyL_bys hr hq hc) (by omega)) (bytesL_bys hv (by omega))

end Go.Proofs.Ytnjopfdeapclhaa

namespace Go.Proofs.Ytnjopfdeapclhaa
open Go.RowKit
set_option linter.unusedVariables false

/-- An entry whose byte strings have marks behind them. -/
def LaidE (w : World) (B : Nat) (D : EntD) : Prop := Laid w B D.vr D.row ∧ Laid w B D.vq D.qual ∧ Laid w B D.vv D.val
theorem LaidE.later {w w' : World} {B : Nat} {D : EntD} (h : LaidE w B D) (hb : Below w.heap.size w w') : LaidE w' B D := ⟨h.1.later hb, h.2.1.later hb, h.2.2.later hb⟩
theorem Laid.mono {w : World} {B B' : Nat} {u : Value} {bs : List Nat} (h : Laid w B u bs) (hB : B' ≤ B) : Laid w B' u bs := by
  obtain ⟨g, c, h1, h2, h3, h4⟩ := h
  exact ⟨g, c, h1, h2, h3, h4.mono hB⟩
theorem LaidE.mono {w : World} {B B' : Nat} {D : EntD} (h : LaidE w B D) (hB : B' ≤ B) : LaidE w B' D := ⟨h.1.mono hB, h.2.1.mono hB, h.2.2.mono hB⟩
/-- The data of an entry that entry() makes. -/
def EntD.cut (e : EntD) : EntD := { e with row := e.row.take 5000, qual := e.qual.take 5000, val := e.val.take 5000 }
/-- Data that may be handed out by entry(). -/
def EntD.Fine (e : EntD) : Prop := (Bys e.row ∧ e.row.length ≤ 5000) ∧ (Bys e.qual ∧ e.qual.length ≤ 5000) ∧ (Bys e.val ∧ e.val.length ≤ 5000)
theorem EntD.cut_fine {w : World} {e : EntD} (h : EntD.Ok w e) : EntD.Fine e.cut :=
  ⟨⟨fun x hx => h.1.1 x (List.mem_of_mem_take hx), by simp [EntD.cut]; omega⟩, ⟨fun x hx => h.2.1.1 x (List.mem_of_mem_take hx), by simp [EntD.cut]; omega⟩, ⟨fun x hx => h.2.2.1 x (List.mem_of_mem_take hx), by simp [EntD.cut]; omega⟩⟩
theorem EntD.Fine.same {a b : EntD} (h : EntD.Fine b) (s : EntD.Same a b) : EntD.Fine a := by
  unfold EntD.Fine at *
  rw [s.2.2.2.2.1, s.2.2.2.2.2.1, s.2.2.2.2.2.2]; exact h
theorem LaidE.ok {w : World} {B : Nat} {D : EntD} (h : LaidE w B D) (k : EntD.Fine D) : EntD.Ok w D := ⟨h.1.rd k.1.1 (by have := k.1.2; omega), h.2.1.rd k.2.1.1 (by have := k.2.1.2; omega), h.2.2.rd k.2.2.1 (by have := k.2.2.2; omega)⟩
theorem check_same {a b : EntD} (s : EntD.Same a b) : checkS a = checkS b := by
  obtain ⟨h1, h2, h3, h4, h5, h6, h7⟩ := s
  unfold checkS; rw [h1, h2, h3, h4, h5, h6, h7]
theorem keyL_same {a b : EntD} (s : EntD.Same a b) : keyL a = keyL b := by
  obtain ⟨h1, h2, h3, h4, h5, h6, h7⟩ := s
  unfold keyL; rw [h1, h2, h3, h4, h5, h6]
theorem packL_same {a b : EntD} (s : EntD.Same a b) : packL a = packL b := by
  unfold packL; rw [keyL_same s, s.2.2.2.2.2.2]

open Classical in
noncomputable def keyA (e : EntD) : List Nat := if checkS e = 0 then keyL e else []
open Classical in
noncomputable def packA (e : EntD) : List Nat := if checkS e = 0 then packL e else []
theorem keyA_same {a b : EntD} (s : EntD.Same a b) : keyA a = keyA b := by unfold keyA; rw [check_same s, keyL_same s]
theorem packA_same {a b : EntD} (s : EntD.Same a b) : packA a = packA b := by unfold packA; rw [check_same s, packL_same s]
theorem keyA_ok {e : EntD} (h : EntD.Fine e) : Bys (keyA e) ∧ (keyA e).length ≤ 6000 := by
  unfold keyA
  split
  · rename_i k
    exact ⟨keyL_bys h.1.1 h.2.1.1 k, by have := keyL_len2 k; omega⟩
  · exact ⟨by intro x hx; simp at hx, by simp⟩
theorem packA_ok {e : EntD} (h : EntD.Fine e) : Bys (packA e) ∧ (packA e).length ≤ 6000 := by
  unfold packA
  split
  · rename_i k
    exact ⟨packL_bys h.1.1 h.2.1.1 h.2.2.1 k, packL_len6 k⟩
  · exact ⟨by intro x hx; simp at hx, by simp⟩
theorem key_all {e : EntD} {w : World} (hok : EntD.Ok w e) :
    Calls Try.prog 43 #[.agg e.cells] w fun r w' => ∃ a m c, r = .returned (.tuple #[.slice a m c, .int .i64 ((checkS e : Nat) : Int)]) ∧ Own w' w.heap.size (.slice a m c) m (keyA e) ∧ Below w.heap.size w w' := by
  unfold keyA
  by_cases h : checkS e = 0
  · rw [if_pos h, h]; exact key_ok hok h
  · rw [if_neg h]
    refine (key_bad hok h).mono ?_
    rintro r w' ⟨rfl, hb⟩
    exact ⟨none, 0, 0, rfl, own_nil _ _, hb⟩
theorem pack_all {e : EntD} {w : World} (hok : EntD.Ok w e) :
    Calls Try.prog 17 #[.agg e.cells] w fun r w' => ∃ a m c, r = .returned (.tuple #[.slice a m c, .int .i64 ((checkS e : Nat) : Int)]) ∧ Own w' w.heap.size (.slice a m c) m (packA e) ∧ Below w.heap.size w w' := by
  unfold packA
  by_cases h : checkS e = 0
  · rw [if_pos h, h]; exact pack_ok hok h
  · rw [if_neg h]
    refine (pack_bad hok h).mono ?_
    rintro r w' ⟨rfl, hb⟩
    exact ⟨none, 0, 0, rfl, own_nil _ _, hb⟩
theorem refPack_all {e : EntD} {w : World} (hok : EntD.Ok w e) :
    Calls Try.prog 53 #[.agg e.cells] w fun r w' => ∃ a m c, r = .returned (.tuple #[.slice a m c, .int .i64 ((checkS e : Nat) : Int)]) ∧ Own w' w.heap.size (.slice a m c) m (packA e) ∧ Below w.heap.size w w' := by
  unfold packA
  by_cases h : checkS e = 0
  · rw [if_pos h, h]; exact refPack_ok hok h
  · rw [if_neg h]
    refine (refPack_bad hok h).mono ?_
    rintro r w' ⟨rfl, hb⟩
    exact ⟨none, 0, 0, rfl, own_nil _ _, hb⟩

theorem Laid.put {w : World} {B g i : Nat} {u x : Value} {bs : List Nat} (h : Laid w B u bs) (hg : g < B) : Laid (w.setCell ⟨g, i, none⟩ x) B u bs := by
  obtain ⟨g2, c, h1, h2, h3, h4⟩ := h
  refine ⟨g2, c, h1, h2, h3, h4.1, h4.2.1, ?_⟩
  rcases h4.2.2 with h5 | ⟨g3, cap, cur, h5, h6, h7, h8⟩
  · exact .inl h5
  · refine .inr ⟨g3, cap, cur, h5, h6, ?_, h8⟩
    rw [Below.heap_setCell w ⟨g, i, none⟩ x g3 (by simp; omega)]
    exact h7
theorem Laid.form {w : World} {B : Nat} {u : Value} {bs : List Nat} (h : Laid w B u bs) : ∃ a n c, u = .slice a n c := by
  obtain ⟨g, c, h1, _⟩ := h
  exact ⟨_, _, _, h1⟩
theorem Laid.fill {w : World} {B g : Nat} {u : Value} {bs : List Nat} {D : EntD} (h : Laid w B u bs) (hg : g < B) : Laid (filled w g D) B u bs :=
  (((((((h.put hg).put hg).put hg).put hg).put hg).put hg).put hg)

end Go.Proofs.Ytnjopfdeapclhaa
