import Derived.Test.YtjcpjpjccoeakaaCell27
import Derived.Lib.Hide
namespace Go.Proofs.Ytjcpjpjccoeakaa
open Go.RowKit
set_option linter.unusedVariables false

set_option maxRecDepth 100000 in
set_option maxHeartbeats 4000000 in
theorem refCheck_any {e : EntD} {w : World} (hok : EntD.Ok w e) :
    Calls Try.prog 40 #[.agg e.cells] w fun r w' => r = .returned (.int .i64 ((checkS e : Nat) : Int)) ∧ Below w.heap.size w w' := by
  obtain ⟨vr, fam, vq, ts, seq, kind, vv, row, qual, val⟩ := e
  obtain ⟨h1, h2, h3⟩ := hok
  simp only [EntD.cells] at *
  obtain ⟨ar, nr, cr, rfl⟩ := rd_slice h1
  obtain ⟨aq, nq, cq, rfl⟩ := rd_slice h2
  obtain ⟨av, nv, cv, rfl⟩ := rd_slice h3
  obtain ⟨er, _, _, lr⟩ := rd_lens h1
  obtain ⟨eq, _, _, lq⟩ := rd_lens h2
  obtain ⟨ev, _, _, lv⟩ := rd_lens h3
  have A1 := (Below.refl w.heap.size w).alloc (Nat.le_refl _) (.cells #[.slice ar nr cr, .int .i64 fam, .slice aq nq cq, .int .i64 ts, .int .i64 seq, .int .i64 kind, .slice av nv cv] 35)
  obtain ⟨S, hS⟩ : ∃ S, S = checkS ⟨.slice ar nr cr, fam, .slice aq nq cq, ts, seq, kind, .slice av nv cv, row, qual, val⟩ := ⟨_, rfl⟩
  rw [← hS]
  unfold checkS at hS
  simp only at hS
  rw [← er, ← eq, ← ev] at hS
  have HS : Hid (S = _) := hS
  clear hS er eq ev h1 h2 h3
  go_enter Try.func40, Try.ntmps40
  go_wp2_with fail
  by_cases c1 : nr = 0 ∨ 256 < nr
  · refine (refOut_out _ _ _ _ (by omega)).mono ?_
    rintro e1 w1 ⟨rfl, rfl⟩
    have HE : Hid (S = 20) := by unfold Hid; rw [HS.out]; repeat (first | rw [if_pos (by omega)] | rw [if_neg (by omega)])
    clear HS
    go_wp2
    go_ret
    exact ⟨by rw [HE.out]; rfl, A1⟩
  refine (refOut_in _ _ _ _ (by omega) (by omega)).mono ?_
  rintro e1 w1 ⟨rfl, rfl⟩
  go_wp2_with fail
  by_cases c2 : fam < 0 ∨ 8 ≤ fam
  · refine (refOut_out _ _ _ _ (by omega)).mono ?_
    rintro e1 w1 ⟨rfl, rfl⟩
    have HE : Hid (S = 21) := by unfold Hid; rw [HS.out]; repeat (first | rw [if_pos (by omega)] | rw [if_neg (by omega)])
    clear HS
    go_wp2
    go_ret
    exact ⟨by rw [HE.out]; rfl, A1⟩
  refine (refOut_in _ _ _ _ (by omega) (by omega)).mono ?_
  rintro e1 w1 ⟨rfl, rfl⟩
  by_cases c3 : 256 < nq
  · have q1 : (256 : Int) < (nq : Int) := by omega
    have HE : Hid (S = 22) := by unfold Hid; rw [HS.out]; repeat (first | rw [if_pos (by omega)] | rw [if_neg (by omega)])
    clear HS
    go_wp2
    go_ret
    exact ⟨by rw [HE.out]; rfl, A1⟩
  have q1 : (nq : Int) ≤ 256 := by omega
  by_cases k5 : kind = 5
  · subst k5
    by_cases q0 : 0 < nq
    · have q2 : (0 : Int) < (nq : Int) := by omega
      have HE : Hid (S = 22) := by unfold Hid; rw [HS.out]; repeat (first | rw [if_pos (by omega)] | rw [if_neg (by omega)])
      clear HS
      go_wp2
      go_ret
      exact ⟨by rw [HE.out]; rfl, A1⟩
    have q2 : (nq : Int) ≤ 0 := by omega
    go_wp2_with fail
    by_cases c4 : ts < 1 ∨ 1099511627776 < ts
    · refine (refOut_out _ _ _ _ (by omega)).mono ?_
      rintro e1 w1 ⟨rfl, rfl⟩
      have HE : Hid (S = 23) := by unfold Hid; rw [HS.out]; repeat (first | rw [if_pos (by omega)] | rw [if_neg (by omega)])
      clear HS
      go_wp2
      go_ret
      exact ⟨by rw [HE.out]; rfl, A1⟩
    refine (refOut_in _ _ _ _ (by omega) (by omega)).mono ?_
    rintro e1 w1 ⟨rfl, rfl⟩
    go_wp2_with fail
    by_cases c5 : seq < 0 ∨ 17592186044431 < seq
    · refine (refOut_out _ _ _ _ (by omega)).mono ?_
      rintro e1 w1 ⟨rfl, rfl⟩
      have HE : Hid (S = 24) := by unfold Hid; rw [HS.out]; repeat (first | rw [if_pos (by omega)] | rw [if_neg (by omega)])
      clear HS
      go_wp2
      go_ret
      exact ⟨by rw [HE.out]; rfl, A1⟩
    refine (refOut_in _ _ _ _ (by omega) (by omega)).mono ?_
    rintro e1 w1 ⟨rfl, rfl⟩
    go_wp2_with fail
    refine (refOut_in _ _ _ _ (by decide) (by decide)).mono ?_
    rintro e1 w1 ⟨rfl, rfl⟩
    by_cases c7 : 4096 < nv
    · have v1 : (4096 : Int) < (nv : Int) := by omega
      have HE : Hid (S = 26) := by unfold Hid; rw [HS.out]; repeat (first | rw [if_pos (by omega)] | rw [if_neg (by omega)])
      clear HS
      go_wp2
      go_ret
      exact ⟨by rw [HE.out]; rfl, A1⟩
    have v1 : (nv : Int) ≤ 4096 := by omega
    by_cases c9 : 0 < nv
    · have v0 : (0 : Int) < (nv : Int) := by omega
      have HE : Hid (S = 26) := by unfold Hid; rw [HS.out]; repeat (first | rw [if_pos (by omega)] | rw [if_neg (by omega)])
      clear HS
      go_wp2
      go_ret
      exact ⟨by rw [HE.out]; rfl, A1⟩
    have v0 : (nv : Int) ≤ 0 := by omega
    have HE : Hid (S = 0) := by unfold Hid; rw [HS.out]; repeat (first | rw [if_pos (by omega)] | rw [if_neg (by omega)])
    clear HS
    go_wp2
    go_ret
    exact ⟨by rw [HE.out]; rfl, A1⟩
  have k51 : (kind == 5) = false := by simp; omega
  go_wp2_with fail
  by_cases c4 : ts < 1 ∨ 1099511627776 < ts
  · refine (refOut_out _ _ _ _ (by omega)).mono ?_
    rintro e1 w1 ⟨rfl, rfl⟩
    have HE : Hid (S = 23) := by unfold Hid; rw [HS.out]; repeat (first | rw [if_pos (by omega)] | rw [if_neg (by omega)])
    clear HS
    go_wp2
    go_ret
    exact ⟨by rw [HE.out]; rfl, A1⟩
  refine (refOut_in _ _ _ _ (by omega) (by omega)).mono ?_
  rintro e1 w1 ⟨rfl, rfl⟩
  go_wp2_with fail
  by_cases c5 : seq < 0 ∨ 17592186044431 < seq
  · refine (refOut_out _ _ _ _ (by omega)).mono ?_
    rintro e1 w1 ⟨rfl, rfl⟩
    have HE : Hid (S = 24) := by unfold Hid; rw [HS.out]; repeat (first | rw [if_pos (by omega)] | rw [if_neg (by omega)])
    clear HS
    go_wp2
    go_ret
    exact ⟨by rw [HE.out]; rfl, A1⟩
  refine (refOut_in _ _ _ _ (by omega) (by omega)).mono ?_
  rintro e1 w1 ⟨rfl, rfl⟩
  go_wp2_with fail
  by_cases c6 : kind < 1 ∨ 5 < kind
  · refine (refOut_out _ _ _ _ (by omega)).mono ?_
    rintro e1 w1 ⟨rfl, rfl⟩
    have HE : Hid (S = 25) := by unfold Hid; rw [HS.out]; repeat (first | rw [if_pos (by omega)] | rw [if_neg (by omega)])
    clear HS
    go_wp2
    go_ret
    exact ⟨by rw [HE.out]; rfl, A1⟩
  refine (refOut_in _ _ _ _ (by omega) (by omega)).mono ?_
  rintro e1 w1 ⟨rfl, rfl⟩
  by_cases c7 : 4096 < nv
  · have v1 : (4096 : Int) < (nv : Int) := by omega
    have HE : Hid (S = 26) := by unfold Hid; rw [HS.out]; repeat (first | rw [if_pos (by omega)] | rw [if_neg (by omega)])
    clear HS
    go_wp2
    go_ret
    exact ⟨by rw [HE.out]; rfl, A1⟩
  have v1 : (nv : Int) ≤ 4096 := by omega
  by_cases c8 : kind = 1
  · subst c8
    have HE : Hid (S = 0) := by unfold Hid; rw [HS.out]; repeat (first | rw [if_pos (by omega)] | rw [if_neg (by omega)])
    clear HS
    go_wp2
    go_ret
    exact ⟨by rw [HE.out]; rfl, A1⟩
  have k1 : (kind != 1) = true := by simp; omega
  have k2 : (kind == 1) = false := by simp; omega
  by_cases c9 : 0 < nv
  · have v0 : (0 : Int) < (nv : Int) := by omega
    have HE : Hid (S = 26) := by unfold Hid; rw [HS.out]; repeat (first | rw [if_pos (by omega)] | rw [if_neg (by omega)])
    clear HS
    go_wp2
    go_ret
    exact ⟨by rw [HE.out]; rfl, A1⟩
  have v0 : (nv : Int) ≤ 0 := by omega
  have HE : Hid (S = 0) := by unfold Hid; rw [HS.out]; repeat (first | rw [if_pos (by omega)] | rw [if_neg (by omega)])
  clear HS
  go_wp2
  go_ret
  exact ⟨by rw [HE.out]; rfl, A1⟩

end Go.Proofs.Ytjcpjpjccoeakaa

namespace Go.Proofs.Ytjcpjpjccoeakaa
open Go.RowKit
set_option linter.unusedVariables false

set_option maxRecDepth 100000 in
set_option maxHeartbeats 4000000 in
theorem refkey_any {e : EntD} {w : World} (hok : EntD.Ok w e) (hc : checkS e = 0) :
    Calls Try.prog 67 #[.agg e.cells] w fun r w' => ∃ a m c, r = .returned (.slice a m c) ∧ Own w' w.heap.size (.slice a m c) m (keyL e) ∧ Below w.heap.size w w' := by
  obtain ⟨f1, f2, f3, f4, f5, f6, f7, _, _⟩ := check_facts hc
  have A1 := (Below.refl w.heap.size w).alloc (Nat.le_refl _) (.cells e.cells 35)
  have bx1 : Hid (EBox (w.alloc (.cells e.cells 35)) w.heap.size e) := EBox.new w e
  obtain ⟨vr, fam, vq, ts, seq, kind, vv, row, qual, val⟩ := e
  obtain ⟨h1, h2, h3⟩ := hok
  simp only [EntD.cells] at *
  obtain ⟨fm, rfl⟩ := Int.eq_ofNat_of_zero_le f2.1
  obtain ⟨t, rfl⟩ := Int.eq_ofNat_of_zero_le (show 0 ≤ ts by omega)
  obtain ⟨sq, rfl⟩ := Int.eq_ofNat_of_zero_le f6.1
  obtain ⟨kd, rfl⟩ := Int.eq_ofNat_of_zero_le (show 0 ≤ kind by omega)
  have HOR : Hid ((ordL row).length ≤ 514 ∧ Bys (ordL row)) := ⟨by have := ordL_len row; have : row.count 0 ≤ row.length := List.count_le_length; omega, ordL_bys row h1.1⟩
  have HOQ : Hid ((ordL qual).length ≤ 514 ∧ Bys (ordL qual)) := ⟨by have := ordL_len qual; have : qual.count 0 ≤ qual.length := List.count_le_length; omega, ordL_bys qual h2.1⟩
  have hfm : fm < 8 := by omega
  have hkd : kd ≤ 5 := by omega
  have hts : t < 9223372036854775808 := by omega
  have hsq : sq < 9223372036854775808 := by omega
  have em1 : (fm : Int) % 256 = (fm : Int) := by omega
  have em2 : (kd : Int) % 256 = (kd : Int) := by omega
  have HRR : Hid (Rd w vr row) := h1
  have HRQ : Hid (Rd w vq qual) := h2
  clear h1 h2 h3 f1 f2 f3 f5 f6 f7 f4 hc
  go_enter Try.func67, Try.ntmps67
  go_wp2_with fail
  refine (refOrdered_any (HRR.out.later A1) (by have := HOR.out.1; omega)).mono ?_
  rintro e1 w1 ⟨a1, m1, c1, rfl, own1x, hb1⟩
  have B1 := A1.trans (hb1.mono A1.size)
  have bxw1 : Hid (EBox w1 w.heap.size _) := bx1.out.later hb1
  have hG : w.heap.size < w.heap.size + 1 := by omega
  have own1 : Own w1 (w.heap.size + 1) (.slice a1 m1 c1) m1 (ordL row) := by simpa using own1x
  have hS1 : w.heap.size + 1 ≤ w1.heap.size := by have := hb1.size; simpa using this
  have hm1 : m1 ≤ 514 := by rw [own1.1]; exact HOR.out.1
  clear hb1 bx1 own1x A1
  have xfam1 := bxw1.out.fam
  simp only at xfam1
  go_wp2_with (at_builtin; refine wpList_append_new rfl _ _ rfl (w.heap.size + 1) a1 m1 c1 _ rfl own1 [_] 1 rfl [fm] (by first | rfl | (simp [bv]; done) | (simp [bv]; omega)) rfl (by omega) hS1 ?_; intro a2 m2 c2 w2 own2 hb2; refine Hid.out ?_)
  refine Lib.hid ?_
  have hm2 : m2 ≤ 515 := by rw [own2.1, List.length_append, ← own1.1]; simp; omega
  have bxw2 : Hid (EBox w2 w.heap.size _) := bxw1.out.keep hb2 hG
  have B2 := B1.trans (hb2.mono (Nat.le_of_lt hG))
  have hS2 : w.heap.size + 1 ≤ w2.heap.size := Nat.le_trans hS1 hb2.size
  clear bxw1 B1 hS1 hb2 own1 hm1
  clear xfam1
  by_cases hk5 : kd = 5
  · have HKL : Hid (keyL ⟨vr, (fm : Int), vq, (t : Int), (sq : Int), (kd : Int), vv, row, qual, val⟩ = ((((ordL row ++ [fm]) ++ [0]) ++ be8 (9223372036854775807 - t)) ++ be8 (9223372036854775807 - sq)) ++ [kd]) := by
      unfold Hid keyL mark
      have : (kd : Int) = 5 := by omega
      simp [this]
      omega
    have hkn : ((kd : Int) == 5) = true := by simp; omega
    have xkind2 := bxw2.out.kind
    simp only at xkind2
    go_wp2_with (at_builtin; refine wpList_append_new rfl _ _ rfl (w.heap.size + 1) a2 m2 c2 _ rfl own2 [_] 1 rfl [0] (by first | rfl | (simp [bv]; done) | (simp [bv]; omega)) rfl (by omega) hS2 ?_; intro a3 m3 c3 w3 own3 hb3; refine Hid.out ?_)
    refine Lib.hid ?_
    have hm3 : m3 ≤ 516 := by rw [own3.1, List.length_append, ← own2.1]; simp; omega
    have bxw3 : Hid (EBox w3 w.heap.size _) := bxw2.out.keep hb3 hG
    have B3 := B2.trans (hb3.mono (Nat.le_of_lt hG))
    have hS3 : w.heap.size + 1 ≤ w3.heap.size := Nat.le_trans hS2 hb3.size
    clear bxw2 B2 hS2 hb3 own2 hm2
    clear xkind2
    have xts3 := bxw3.out.ts
    simp only at xts3
    go_wp2_with fail
    refine (refFalling_any t hts _).mono ?_
    rintro e7 w7 ⟨a7, m7, c7, rfl, own7, hb7⟩
    have hm7 : m7 = 8 := own7.1
    subst hm7
    have r7 : Rd w7 (.slice a7 8 c7) _ := own7.rd (be8_bys _) (by omega)
    have own67 := own3.later hb7
    have bxw7 : Hid (EBox w7 w.heap.size _) := bxw3.out.later hb7
    have B7 := B3.trans (hb7.mono B3.size)
    have hS7 : w.heap.size + 1 ≤ w7.heap.size := Nat.le_trans hS3 hb7.size
    clear bxw3 B3 hS3 hb7 own3 own7 xts3
    have xseq7 := bxw7.out.seq
    simp only at xseq7
    go_wp2_with fail
    refine (refFalling_any sq hsq _).mono ?_
    rintro e8 w8 ⟨a8, m8, c8, rfl, own8, hb8⟩
    have hm8 : m8 = 8 := own8.1
    subst hm8
    have r78 := r7.later hb8
    have own68 := own67.later hb8
    have HLT : Hid (∀ g, (Value.slice a3 m3 c3).ownBlock = some g → g < w7.heap.size) := fun g hg => (own67.2.lt g hg).2
    have bxw8 : Hid (EBox w8 w.heap.size _) := bxw7.out.later hb8
    have B8 := B7.trans (hb8.mono B7.size)
    have hS8 : w.heap.size + 1 ≤ w8.heap.size := Nat.le_trans hS7 hb8.size
    have R8 : Hid (Own w8 w7.heap.size (.slice a8 8 c8) 8 (be8 (9223372036854775807 - sq)) ∧ Below w7.heap.size w7 w8) := ⟨own8, hb8⟩
    clear bxw7 B7 hb8 own67 own8 xseq7 r7
    go_wp2_with (at_builtin; refine wpList_append_gr rfl _ _ rfl (w.heap.size + 1) a3 m3 c3 _ rfl own68 a7 8 c7 _ rfl r78 (by omega) hS8 ?_; intro a9 m9 c9 w9 own9 hb9 gr9; refine Hid.out ?_)
    refine Lib.hid ?_
    have hm9 : m9 ≤ 524 := by rw [own9.1, List.length_append, ← own68.1]; simp [be8]; omega
    have r9 : Rd w9 (.slice a8 8 c8) _ := (R8.out.1.grown gr9 HLT.out).rd (be8_bys _) (by omega)
    have bxw9 : Hid (EBox w9 w.heap.size _) := bxw8.out.keep hb9 hG
    have B9 := B8.trans (hb9.mono (Nat.le_of_lt hG))
    have hS9 : w.heap.size + 1 ≤ w9.heap.size := Nat.le_trans hS8 hb9.size
    clear bxw8 B8 hS8 hb9 own68 r78 R8 HLT gr9 hS7 hm3
    go_wp2_with (at_builtin; refine wpList_append_at rfl _ _ rfl (w.heap.size + 1) a9 m9 c9 _ rfl own9 a8 8 c8 _ rfl r9 (by omega) hS9 ?_; intro a10 m10 c10 w10 own10 hb10; refine Hid.out ?_)
    refine Lib.hid ?_
    have hm10 : m10 ≤ 532 := by rw [own10.1, List.length_append, ← own9.1]; simp [be8]; omega
    have bxw10 : Hid (EBox w10 w.heap.size _) := bxw9.out.keep hb10 hG
    have B10 := B9.trans (hb10.mono (Nat.le_of_lt hG))
    have hS10 : w.heap.size + 1 ≤ w10.heap.size := Nat.le_trans hS9 hb10.size
    clear bxw9 B9 hS9 hb10 own9 r9 hm9
    have xkind10 := bxw10.out.kind
    simp only at xkind10
    go_wp2_with (at_builtin; refine wpList_append_new rfl _ _ rfl (w.heap.size + 1) a10 m10 c10 _ rfl own10 [_] 1 rfl [kd] (by first | rfl | (simp [bv]; done) | (simp [bv]; omega)) rfl (by omega) hS10 ?_; intro a11 m11 c11 w11 own11 hb11)
    go_ret
    refine ⟨a11, m11, c11, rfl, ?_, B10.trans (hb11.mono (Nat.le_of_lt hG))⟩
    rw [HKL.out]
    exact own11.mono (Nat.le_of_lt hG)
  by_cases hk4c : kd = 4
  · have HKL : Hid (keyL ⟨vr, (fm : Int), vq, (t : Int), (sq : Int), (kd : Int), vv, row, qual, val⟩ = ((((((ordL row ++ [fm]) ++ [1]) ++ ordL qual) ++ [0]) ++ be8 (9223372036854775807 - t)) ++ be8 (9223372036854775807 - sq)) ++ [kd]) := by
      unfold Hid keyL mark
      have h4 : (kd : Int) = 4 := by omega
      simp [h4]
      omega
    have hkn : ((kd : Int) == 5) = false := by simp; omega
    have hk4 : ((kd : Int) == 4) = true := by simp; omega
    have xkind2 := bxw2.out.kind
    simp only at xkind2
    go_wp2_with (at_builtin; refine wpList_append_new rfl _ _ rfl (w.heap.size + 1) a2 m2 c2 _ rfl own2 [_] 1 rfl [1] (by first | rfl | (simp [bv]; done) | (simp [bv]; omega)) rfl (by omega) hS2 ?_; intro a3 m3 c3 w3 own3 hb3; refine Hid.out ?_)
    refine Lib.hid ?_
    have hm3 : m3 ≤ 516 := by rw [own3.1, List.length_append, ← own2.1]; simp; omega
    have bxw3 : Hid (EBox w3 w.heap.size _) := bxw2.out.keep hb3 hG
    have B3 := B2.trans (hb3.mono (Nat.le_of_lt hG))
    have hS3 : w.heap.size + 1 ≤ w3.heap.size := Nat.le_trans hS2 hb3.size
    clear bxw2 B2 hS2 hb3 own2 hm2
    clear xkind2
    have xvq3 := bxw3.out.vq
    simp only at xvq3
    go_wp2_with fail
    refine (refOrdered_any (HRQ.out.later B3) (by have := HOQ.out.1; omega)).mono ?_
    rintro e4 w4 ⟨a4, m4, c4, rfl, own4, hb4⟩
    have hm4 : m4 ≤ 514 := by rw [own4.1]; exact HOQ.out.1
    have r4 : Rd w4 (.slice a4 m4 c4) _ := own4.rd HOQ.out.2 (by omega)
    have own34 := own3.later hb4
    have bxw4 : Hid (EBox w4 w.heap.size _) := bxw3.out.later hb4
    have B4 := B3.trans (hb4.mono B3.size)
    have hS4 : w.heap.size + 1 ≤ w4.heap.size := Nat.le_trans hS3 hb4.size
    have HL4 : Hid (m4 = (ordL qual).length) := own4.1
    clear bxw3 B3 hS3 hb4 own3 own4 xvq3
    go_wp2_with (at_builtin; refine wpList_append_at rfl _ _ rfl (w.heap.size + 1) a3 m3 c3 _ rfl own34 a4 m4 c4 _ rfl r4 (by omega) hS4 ?_; intro a5 m5 c5 w5 own5 hb5; refine Hid.out ?_)
    refine Lib.hid ?_
    have hm5 : m5 ≤ 1030 := by rw [own5.1, List.length_append, ← own34.1, ← HL4.out]; omega
    have bxw5 : Hid (EBox w5 w.heap.size _) := bxw4.out.keep hb5 hG
    have B5 := B4.trans (hb5.mono (Nat.le_of_lt hG))
    have hS5 : w.heap.size + 1 ≤ w5.heap.size := Nat.le_trans hS4 hb5.size
    clear bxw4 B4 hS4 hb5 own34 r4 hm3 hm4 HL4
    have xkind5 := bxw5.out.kind
    simp only at xkind5
    go_wp2_with (at_builtin; refine wpList_append_new rfl _ _ rfl (w.heap.size + 1) a5 m5 c5 _ rfl own5 [_] 1 rfl [0] (by first | rfl | (simp [bv]; done) | (simp [bv]; omega)) rfl (by omega) hS5 ?_; intro a6 m6 c6 w6 own6 hb6; refine Hid.out ?_)
    refine Lib.hid ?_
    have hm6 : m6 ≤ 1031 := by rw [own6.1, List.length_append, ← own5.1]; simp; omega
    have bxw6 : Hid (EBox w6 w.heap.size _) := bxw5.out.keep hb6 hG
    have B6 := B5.trans (hb6.mono (Nat.le_of_lt hG))
    have hS6 : w.heap.size + 1 ≤ w6.heap.size := Nat.le_trans hS5 hb6.size
    clear bxw5 B5 hS5 hb6 own5 hm5
    clear xkind5
    have xts6 := bxw6.out.ts
    simp only at xts6
    go_wp2_with fail
    refine (refFalling_any t hts _).mono ?_
    rintro e7 w7 ⟨a7, m7, c7, rfl, own7, hb7⟩
    have hm7 : m7 = 8 := own7.1
    subst hm7
    have r7 : Rd w7 (.slice a7 8 c7) _ := own7.rd (be8_bys _) (by omega)
    have own67 := own6.later hb7
    have bxw7 : Hid (EBox w7 w.heap.size _) := bxw6.out.later hb7
    have B7 := B6.trans (hb7.mono B6.size)
    have hS7 : w.heap.size + 1 ≤ w7.heap.size := Nat.le_trans hS6 hb7.size
    clear bxw6 B6 hS6 hb7 own6 own7 xts6
    have xseq7 := bxw7.out.seq
    simp only at xseq7
    go_wp2_with fail
    refine (refFalling_any sq hsq _).mono ?_
    rintro e8 w8 ⟨a8, m8, c8, rfl, own8, hb8⟩
    have hm8 : m8 = 8 := own8.1
    subst hm8
    have r78 := r7.later hb8
    have own68 := own67.later hb8
    have HLT : Hid (∀ g, (Value.slice a6 m6 c6).ownBlock = some g → g < w7.heap.size) := fun g hg => (own67.2.lt g hg).2
    have bxw8 : Hid (EBox w8 w.heap.size _) := bxw7.out.later hb8
    have B8 := B7.trans (hb8.mono B7.size)
    have hS8 : w.heap.size + 1 ≤ w8.heap.size := Nat.le_trans hS7 hb8.size
    have R8 : Hid (Own w8 w7.heap.size (.slice a8 8 c8) 8 (be8 (9223372036854775807 - sq)) ∧ Below w7.heap.size w7 w8) := ⟨own8, hb8⟩
    clear bxw7 B7 hb8 own67 own8 xseq7 r7
    go_wp2_with (at_builtin; refine wpList_append_gr rfl _ _ rfl (w.heap.size + 1) a6 m6 c6 _ rfl own68 a7 8 c7 _ rfl r78 (by omega) hS8 ?_; intro a9 m9 c9 w9 own9 hb9 gr9; refine Hid.out ?_)
    refine Lib.hid ?_
    have hm9 : m9 ≤ 1039 := by rw [own9.1, List.length_append, ← own68.1]; simp [be8]; omega
    have r9 : Rd w9 (.slice a8 8 c8) _ := (R8.out.1.grown gr9 HLT.out).rd (be8_bys _) (by omega)
    have bxw9 : Hid (EBox w9 w.heap.size _) := bxw8.out.keep hb9 hG
    have B9 := B8.trans (hb9.mono (Nat.le_of_lt hG))
    have hS9 : w.heap.size + 1 ≤ w9.heap.size := Nat.le_trans hS8 hb9.size
    clear bxw8 B8 hS8 hb9 own68 r78 R8 HLT gr9 hS7 hm6
    go_wp2_with (at_builtin; refine wpList_append_at rfl _ _ rfl (w.heap.size + 1) a9 m9 c9 _ rfl own9 a8 8 c8 _ rfl r9 (by omega) hS9 ?_; intro a10 m10 c10 w10 own10 hb10; refine Hid.out ?_)
    refine Lib.hid ?_
    have hm10 : m10 ≤ 1047 := by rw [own10.1, List.length_append, ← own9.1]; simp [be8]; omega
    have bxw10 : Hid (EBox w10 w.heap.size _) := bxw9.out.keep hb10 hG
    have B10 := B9.trans (hb10.mono (Nat.le_of_lt hG))
    have hS10 : w.heap.size + 1 ≤ w10.heap.size := Nat.le_trans hS9 hb10.size
    clear bxw9 B9 hS9 hb10 own9 r9 hm9
    have xkind10 := bxw10.out.kind
    simp only at xkind10
    go_wp2_with (at_builtin; refine wpList_append_new rfl _ _ rfl (w.heap.size + 1) a10 m10 c10 _ rfl own10 [_] 1 rfl [kd] (by first | rfl | (simp [bv]; done) | (simp [bv]; omega)) rfl (by omega) hS10 ?_; intro a11 m11 c11 w11 own11 hb11)
    go_ret
    refine ⟨a11, m11, c11, rfl, ?_, B10.trans (hb11.mono (Nat.le_of_lt hG))⟩
    rw [HKL.out]
    exact own11.mono (Nat.le_of_lt hG)
  · have HKL : Hid (keyL ⟨vr, (fm : Int), vq, (t : Int), (sq : Int), (kd : Int), vv, row, qual, val⟩ = ((((((ordL row ++ [fm]) ++ [1]) ++ ordL qual) ++ [1]) ++ be8 (9223372036854775807 - t)) ++ be8 (9223372036854775807 - sq)) ++ [kd]) := by
      unfold Hid keyL mark
      have h4 : ¬ ((kd : Int) = 4) := by omega
      have h5 : ¬ ((kd : Int) = 5) := by omega
      simp [h4, h5]
    have hkn : ((kd : Int) == 5) = false := by simp; omega
    have hk4 : ((kd : Int) == 4) = false := by simp; omega
    have xkind2 := bxw2.out.kind
    simp only at xkind2
    go_wp2_with (at_builtin; refine wpList_append_new rfl _ _ rfl (w.heap.size + 1) a2 m2 c2 _ rfl own2 [_] 1 rfl [1] (by first | rfl | (simp [bv]; done) | (simp [bv]; omega)) rfl (by omega) hS2 ?_; intro a3 m3 c3 w3 own3 hb3; refine Hid.out ?_)
    refine Lib.hid ?_
    have hm3 : m3 ≤ 516 := by rw [own3.1, List.length_append, ← own2.1]; simp; omega
    have bxw3 : Hid (EBox w3 w.heap.size _) := bxw2.out.keep hb3 hG
    have B3 := B2.trans (hb3.mono (Nat.le_of_lt hG))
    have hS3 : w.heap.size + 1 ≤ w3.heap.size := Nat.le_trans hS2 hb3.size
    clear bxw2 B2 hS2 hb3 own2 hm2
    clear xkind2
    have xvq3 := bxw3.out.vq
    simp only at xvq3
    go_wp2_with fail
    refine (refOrdered_any (HRQ.out.later B3) (by have := HOQ.out.1; omega)).mono ?_
    rintro e4 w4 ⟨a4, m4, c4, rfl, own4, hb4⟩
    have hm4 : m4 ≤ 514 := by rw [own4.1]; exact HOQ.out.1
    have r4 : Rd w4 (.slice a4 m4 c4) _ := own4.rd HOQ.out.2 (by omega)
    have own34 := own3.later hb4
    have bxw4 : Hid (EBox w4 w.heap.size _) := bxw3.out.later hb4
    have B4 := B3.trans (hb4.mono B3.size)
    have hS4 : w.heap.size + 1 ≤ w4.heap.size := Nat.le_trans hS3 hb4.size
    have HL4 : Hid (m4 = (ordL qual).length) := own4.1
    clear bxw3 B3 hS3 hb4 own3 own4 xvq3
    go_wp2_with (at_builtin; refine wpList_append_at rfl _ _ rfl (w.heap.size + 1) a3 m3 c3 _ rfl own34 a4 m4 c4 _ rfl r4 (by omega) hS4 ?_; intro a5 m5 c5 w5 own5 hb5; refine Hid.out ?_)
    refine Lib.hid ?_
    have hm5 : m5 ≤ 1030 := by rw [own5.1, List.length_append, ← own34.1, ← HL4.out]; omega
    have bxw5 : Hid (EBox w5 w.heap.size _) := bxw4.out.keep hb5 hG
    have B5 := B4.trans (hb5.mono (Nat.le_of_lt hG))
    have hS5 : w.heap.size + 1 ≤ w5.heap.size := Nat.le_trans hS4 hb5.size
    clear bxw4 B4 hS4 hb5 own34 r4 hm3 hm4 HL4
    have xkind5 := bxw5.out.kind
    simp only at xkind5
    go_wp2_with (at_builtin; refine wpList_append_new rfl _ _ rfl (w.heap.size + 1) a5 m5 c5 _ rfl own5 [_] 1 rfl [1] (by first | rfl | (simp [bv]; done) | (simp [bv]; omega)) rfl (by omega) hS5 ?_; intro a6 m6 c6 w6 own6 hb6; refine Hid.out ?_)
    refine Lib.hid ?_
    have hm6 : m6 ≤ 1031 := by rw [own6.1, List.length_append, ← own5.1]; simp; omega
    have bxw6 : Hid (EBox w6 w.heap.size _) := bxw5.out.keep hb6 hG
    have B6 := B5.trans (hb6.mono (Nat.le_of_lt hG))
    have hS6 : w.heap.size + 1 ≤ w6.heap.size := Nat.le_trans hS5 hb6.size
    clear bxw5 B5 hS5 hb6 own5 hm5
    clear xkind5
    have xts6 := bxw6.out.ts
    simp only at xts6
    go_wp2_with fail
    refine (refFalling_any t hts _).mono ?_
    rintro e7 w7 ⟨a7, m7, c7, rfl, own7, hb7⟩
    have hm7 : m7 = 8 := own7.1
    subst hm7
    have r7 : Rd w7 (.slice a7 8 c7) _ := own7.rd (be8_bys _) (by omega)
    have own67 := own6.later hb7
    have bxw7 : Hid (EBox w7 w.heap.size _) := bxw6.out.later hb7
    have B7 := B6.trans (hb7.mono B6.size)
    have hS7 : w.heap.size + 1 ≤ w7.heap.size := Nat.le_trans hS6 hb7.size
    clear bxw6 B6 hS6 hb7 own6 own7 xts6
    have xseq7 := bxw7.out.seq
    simp only at xseq7
    go_wp2_with fail
    refine (refFalling_any sq hsq _).mono ?_
    rintro e8 w8 ⟨a8, m8, c8, rfl, own8, hb8⟩
    have hm8 : m8 = 8 := own8.1
    subst hm8
    have r78 := r7.later hb8
    have own68 := own67.later hb8
    have HLT : Hid (∀ g, (Value.slice a6 m6 c6).ownBlock = some g → g < w7.heap.size) := fun g hg => (own67.2.lt g hg).2
    have bxw8 : Hid (EBox w8 w.heap.size _) := bxw7.out.later hb8
    have B8 := B7.trans (hb8.mono B7.size)
    have hS8 : w.heap.size + 1 ≤ w8.heap.size := Nat.le_trans hS7 hb8.size
    have R8 : Hid (Own w8 w7.heap.size (.slice a8 8 c8) 8 (be8 (9223372036854775807 - sq)) ∧ Below w7.heap.size w7 w8) := ⟨own8, hb8⟩
    clear bxw7 B7 hb8 own67 own8 xseq7 r7
    go_wp2_with (at_builtin; refine wpList_append_gr rfl _ _ rfl (w.heap.size + 1) a6 m6 c6 _ rfl own68 a7 8 c7 _ rfl r78 (by omega) hS8 ?_; intro a9 m9 c9 w9 own9 hb9 gr9; refine Hid.out ?_)
    refine Lib.hid ?_
    have hm9 : m9 ≤ 1039 := by rw [own9.1, List.length_append, ← own68.1]; simp [be8]; omega
    have r9 : Rd w9 (.slice a8 8 c8) _ := (R8.out.1.grown gr9 HLT.out).rd (be8_bys _) (by omega)
    have bxw9 : Hid (EBox w9 w.heap.size _) := bxw8.out.keep hb9 hG
    have B9 := B8.trans (hb9.mono (Nat.le_of_lt hG))
    have hS9 : w.heap.size + 1 ≤ w9.heap.size := Nat.le_trans hS8 hb9.size
    clear bxw8 B8 hS8 hb9 own68 r78 R8 HLT gr9 hS7 hm6
    go_wp2_with (at_builtin; refine wpList_append_at rfl _ _ rfl (w.heap.size + 1) a9 m9 c9 _ rfl own9 a8 8 c8 _ rfl r9 (by omega) hS9 ?_; intro a10 m10 c10 w10 own10 hb10; refine Hid.out ?_)
    refine Lib.hid ?_
    have hm10 : m10 ≤ 1047 := by rw [own10.1, List.length_append, ← own9.1]; simp [be8]; omega
    have bxw10 : Hid (EBox w10 w.heap.size _) := bxw9.out.keep hb10 hG
    have B10 := B9.trans (hb10.mono (Nat.le_of_lt hG))
    have hS10 : w.heap.size + 1 ≤ w10.heap.size := Nat.le_trans hS9 hb10.size
    clear bxw9 B9 hS9 hb10 own9 r9 hm9
    have xkind10 := bxw10.out.kind
    simp only at xkind10
    go_wp2_with (at_builtin; refine wpList_append_new rfl _ _ rfl (w.heap.size + 1) a10 m10 c10 _ rfl own10 [_] 1 rfl [kd] (by first | rfl | (simp [bv]; done) | (simp [bv]; omega)) rfl (by omega) hS10 ?_; intro a11 m11 c11 w11 own11 hb11)
    go_ret
    refine ⟨a11, m11, c11, rfl, ?_, B10.trans (hb11.mono (Nat.le_of_lt hG))⟩
    rw [HKL.out]
    exact own11.mono (Nat.le_of_lt hG)

set_option maxRecDepth 100000 in
set_option maxHeartbeats 4000000 in
theorem refKey_ok {e : EntD} {w : World} (hok : EntD.Ok w e) (hc : checkS e = 0) :
    Calls Try.prog 41 #[.agg e.cells] w fun r w' => ∃ a m c, r = .returned (.tuple #[.slice a m c, .int .i64 0]) ∧ Own w' w.heap.size (.slice a m c) m (keyL e) ∧ Below w.heap.size w w' := by
  have A1 := (Below.refl w.heap.size w).alloc (Nat.le_refl _) (.cells e.cells 35)
  have bx1 : Hid (EBox (w.alloc (.cells e.cells 35)) w.heap.size e) := EBox.new w e
  have HK : Hid (EntD.Ok w e) := hok
  have c1 := refCheck_any (hok.later A1)
  rw [hc] at c1
  have HC : Hid (Calls _ _ _ _ _) := c1
  have HC2 : Hid (∀ w', EntD.Ok w' e → Calls Try.prog 67 #[.agg e.cells] w' fun r w'' => ∃ a m c, r = .returned (.slice a m c) ∧ Own w'' w'.heap.size (.slice a m c) m (keyL e) ∧ Below w'.heap.size w' w'') := fun w' h => refkey_any h hc
  clear hok c1 hc
  simp only [EntD.cells] at *
  go_enter Try.func41, Try.ntmps41
  go_wp2_with fail
  refine HC.out.mono ?_
  rintro e1 w1 ⟨rfl, hb1⟩
  have B1 := A1.trans (hb1.mono A1.size)
  have bx2 := bx1.out.later hb1
  have x0 := bx2.vr
  have x1 := bx2.fam
  have x2 := bx2.vq
  have x3 := bx2.ts
  have x4 := bx2.seq
  have x5 := bx2.kind
  have x6 := bx2.vv
  clear bx1 hb1 bx2 A1
  go_wp2_with fail
  refine (HC2.out _ (HK.out.later B1)).mono ?_
  rintro e2 w2 ⟨a2, m2, c2, rfl, own2, hb2⟩
  go_wp2
  go_ret2
  exact ⟨a2, m2, c2, rfl, own2.mono B1.size, B1.trans (hb2.mono B1.size)⟩

set_option maxRecDepth 100000 in
set_option maxHeartbeats 4000000 in
theorem refKey_bad {e : EntD} {w : World} (hok : EntD.Ok w e) (hc : checkS e ≠ 0) :
    Calls Try.prog 41 #[.agg e.cells] w fun r w' => r = .returned (.tuple #[.slice none 0 0, .int .i64 ((checkS e : Nat) : Int)]) ∧ Below w.heap.size w w' := by
  obtain ⟨C, hC⟩ : ∃ C, C = checkS e := ⟨_, rfl⟩
  have A1 := (Below.refl w.heap.size w).alloc (Nat.le_refl _) (.cells e.cells 35)
  have c1 := refCheck_any (hok.later A1)
  rw [← hC] at c1 hc ⊢
  have HC1 : Hid (Calls _ _ _ _ _) := c1
  have h0 : ((C : Int) != 0) = true := by simp; omega
  have h1 : ¬ ((C : Int) = 0) := by omega
  clear c1 hC hok
  simp only [EntD.cells] at *
  go_enter Try.func41, Try.ntmps41
  go_wp2_with fail
  refine HC1.out.mono ?_
  rintro e1 w1 ⟨rfl, hb1⟩
  have B1 := A1.trans (hb1.mono A1.size)
  go_wp2
  go_ret2
  exact ⟨rfl, B1⟩

set_option maxRecDepth 100000 in
set_option maxHeartbeats 4000000 in
theorem refPack_bad {e : EntD} {w : World} (hok : EntD.Ok w e) (hc : checkS e ≠ 0) :
    Calls Try.prog 42 #[.agg e.cells] w fun r w' => r = .returned (.tuple #[.slice none 0 0, .int .i64 ((checkS e : Nat) : Int)]) ∧ Below w.heap.size w w' := by
  obtain ⟨C, hC⟩ : ∃ C, C = checkS e := ⟨_, rfl⟩
  have A1 := (Below.refl w.heap.size w).alloc (Nat.le_refl _) (.cells e.cells 35)
  have c1 := refCheck_any (hok.later A1)
  rw [← hC] at c1 hc ⊢
  have HC1 : Hid (Calls _ _ _ _ _) := c1
  have h0 : ((C : Int) != 0) = true := by simp; omega
  have h1 : ¬ ((C : Int) = 0) := by omega
  clear c1 hC hok
  simp only [EntD.cells] at *
  go_enter Try.func42, Try.ntmps42
  go_wp2_with fail
  refine HC1.out.mono ?_
  rintro e1 w1 ⟨rfl, hb1⟩
  have B1 := A1.trans (hb1.mono A1.size)
  go_wp2
  go_ret2
  exact ⟨rfl, B1⟩

set_option maxRecDepth 100000 in
set_option maxHeartbeats 4000000 in
theorem refPack_ok {e : EntD} {w : World} (hok : EntD.Ok w e) (hc : checkS e = 0) :
    Calls Try.prog 42 #[.agg e.cells] w fun r w' => ∃ a m c, r = .returned (.tuple #[.slice a m c, .int .i64 0]) ∧ Own w' w.heap.size (.slice a m c) m (packL e) ∧ Below w.heap.size w w' := by
  have hvl : e.val.length ≤ 4096 := (check_facts hc).2.2.2.2.2.2.2.1
  have A1 := (Below.refl w.heap.size w).alloc (Nat.le_refl _) (.cells e.cells 35)
  have bx1 : Hid (EBox (w.alloc (.cells e.cells 35)) w.heap.size e) := EBox.new w e
  have c1 := refCheck_any (hok.later A1)
  rw [hc] at c1
  have HC1 : Hid (Calls _ _ _ _ _) := c1
  have HC2 : Hid (∀ w', EntD.Ok w' e → Calls Try.prog 67 #[.agg e.cells] w' fun r w'' => ∃ a m c, r = .returned (.slice a m c) ∧ Own w'' w'.heap.size (.slice a m c) m (keyL e) ∧ Below w'.heap.size w' w'') := fun w' h => refkey_any h hc
  have HKL : Hid (Bys (keyL e) ∧ (keyL e).length ≤ 2000) := ⟨keyL_bys hok.1.1 hok.2.1.1 hc, keyL_len hc⟩
  have HV : Hid (Rd w e.vv e.val ∧ e.val.length ≤ 4096) := ⟨hok.2.2, hvl⟩
  have HK : Hid (EntD.Ok w e) := hok
  obtain ⟨av, mv, cv, ev⟩ := rd_slice hok.2.2
  have HEV : Hid (e.vv = .slice av mv cv) := ev
  clear c1 hc hok hvl ev
  simp only [EntD.cells] at *
  go_enter Try.func42, Try.ntmps42
  go_wp2_with fail
  refine HC1.out.mono ?_
  rintro e1 w1 ⟨rfl, hb1⟩
  have B1 := A1.trans (hb1.mono A1.size)
  have bx2 : Hid (EBox w1 w.heap.size e) := bx1.out.later hb1
  have x0 := bx2.out.vr
  have x1 := bx2.out.fam
  have x2 := bx2.out.vq
  have x3 := bx2.out.ts
  have x4 := bx2.out.seq
  have x5 := bx2.out.kind
  have x6 := bx2.out.vv
  clear bx1 hb1 A1 HC1
  go_wp2_with fail
  refine (HC2.out _ (HK.out.later B1)).mono ?_
  rintro e2 w2 ⟨a2, m2, c2, rfl, own2, hb2⟩
  have B2 := B1.trans (hb2.mono B1.size)
  have bx3 : Hid (EBox w2 w.heap.size e) := bx2.out.later hb2
  have R2 := own2.rd HKL.out.1 (by rw [own2.1]; have := HKL.out.2; omega)
  have hw1 : w.heap.size ≤ w1.heap.size := B1.size
  clear own2 hb2 bx2 x0 x1 x2 x3 x4 x5 x6 B1
  go_wp2_with fail
  refine (refBytes_any R2 (by have := HKL.out.2; omega)).mono ?_
  rintro e3 w3 ⟨a3, m3, c3, rfl, own3, hb3⟩
  have B3 := B2.trans (hb3.mono B2.size)
  have x6 : w3.cell? ⟨w.heap.size, 6, none⟩ = some (.slice av mv cv) := by rw [(bx3.out.later hb3).vv, HEV.out]
  have RV := HV.out.1.later B3
  rw [HEV.out] at RV
  have hw2 : w.heap.size ≤ w2.heap.size := B2.size
  have hm3 : m3 ≤ 2010 := by rw [own3.1]; have := bytesL_le (keyL e); have := HKL.out.2; omega
  have hs3 : w2.heap.size ≤ w3.heap.size := hb3.size
  clear bx3 R2 B2 hb3
  go_wp2_with fail
  refine (refBytes_any RV (by have := HV.out.2; omega)).mono ?_
  rintro e4 w4 ⟨a4, m4, c4, rfl, own4, hb4⟩
  have B4 := B3.trans (hb4.mono B3.size)
  have own34 := own3.later hb4
  have r4 := own4.rd (bytesL_bys HV.out.1.1 (by have := HV.out.2; omega)) (by rw [own4.1]; have := bytesL_le e.val; have := HV.out.2; omega)
  have hm4 : m4 ≤ 4106 := by rw [own4.1]; have := bytesL_le e.val; have := HV.out.2; omega
  have hS : w2.heap.size ≤ w4.heap.size := Nat.le_trans hs3 hb4.size
  clear own3 own4 hb4 x6 RV B3
  go_wp2_with (at_builtin; refine wpList_append_at rfl _ _ rfl w2.heap.size a3 m3 c3 _ rfl own34 a4 m4 c4 _ rfl r4 (by omega) hS ?_; intro a5 m5 c5 w5 own5 hb5)
  go_ret2
  exact ⟨a5, m5, c5, rfl, own5.mono hw2, B4.trans (hb5.mono hw2)⟩

end Go.Proofs.Ytjcpjpjccoeakaa
