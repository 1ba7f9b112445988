import Derived.Test.YtchebhafabhabaaGreatDoorK13
namespace Go.Proofs.YtchebhafabhabaaGreatDoor
open Go.RowKit
set_option linter.unusedVariables false

def Near (w : World) (l u : Value) : Prop := u.ownBlock = l.ownBlock ∨ ∀ g, u.ownBlock = some g → w.heap.size ≤ g
def Marked (w w' : World) (l : Value) (G mk : Nat) : Prop := w.heap.size ≤ G ∧ ∀ i, i < 4 → ∃ ai ki ci, w'.cell? ⟨G, i, none⟩ = some (.slice ai ki ci) ∧ Rd w' (.slice ai ki ci) (List.replicate ki mk) ∧ Near w l (.slice ai ki ci)

theorem bv_at (L : List Nat) (t : Nat) (h : t < L.length) : (bv L)[t]? = some (.int .u8 ((L.getD t 0 : Nat) : Int)) := by
  simp [bv, List.getD, List.getElem?_eq_getElem h]
def FullL (w : World) (G mk : Nat) : Prop := ∀ i, i < 4 → ∃ ai ki ci, w.cell? ⟨G, i, none⟩ = some (.slice ai ki ci) ∧ Rd w (.slice ai ki ci) (List.replicate ki mk)
end Go.Proofs.YtchebhafabhabaaGreatDoor

namespace Go.Proofs.YtchebhafabhabaaGreatDoor
open Go.RowKit
set_option linter.unusedVariables false

open Classical in
noncomputable def startL (r : List Nat) : List Nat := if RowOk r then ordL r else []
open Classical in
noncomputable def behindL (r : List Nat) : List Nat := if RowOk r then ordL r ++ [255] else []
open Classical in
noncomputable def rowE (r : List Nat) : Nat := if RowOk r then 0 else 20
end Go.Proofs.YtchebhafabhabaaGreatDoor

namespace Go.Proofs.YtchebhafabhabaaGreatDoor
open Go.RowKit
set_option linter.unusedVariables false

set_option maxRecDepth 100000 in
set_option maxHeartbeats 4000000 in
theorem refCheck_any {e : EntD} {w : World} (hok : EntD.Ok w e) :
    Calls Tryz.prog 47 #[.agg e.cells] w fun r w' => r = .returned (.int .i64 ((checkS e : Nat) : Int)) ∧ Below w.heap.size w w' := by
  obtain ⟨vr, fam, vq, ts, seq, kind, vv, row, qual, val⟩ := e
  obtain ⟨h1, h2, h3⟩ := hok
  simp only [EntD.cells] at *
  obtain ⟨ar, nr, cr, rfl⟩ := rd_slice h1
  obtain ⟨aq, nq, cq, rfl⟩ := rd_slice h2
  obtain ⟨av, nv, cv, rfl⟩ := rd_slice h3
  obtain ⟨er, _, _, lr⟩ := rd_lens h1
  obtain ⟨eq, _, _, lq⟩ := rd_lens h2
  obtain ⟨ev, _, _, lv⟩ := rd_lens h3
  have A1 := (Below.refl w.heap.size w).alloc (Nat.le_refl _) (.cells #[.slice ar nr cr, .int .i64 fam, .slice aq nq cq, .int .i64 ts, .int .i64 seq, .int .i64 kind, .slice av nv cv] 40)
  obtain ⟨S, hS⟩ : ∃ S, S = checkS ⟨.slice ar nr cr, fam, .slice aq nq cq, ts, seq, kind, .slice av nv cv, row, qual, val⟩ := ⟨_, rfl⟩
  rw [← hS]
  unfold checkS at hS
  simp only at hS
  rw [← er, ← eq, ← ev] at hS
  have HS : Hid (S = _) := hS
  clear hS er eq ev h1 h2 h3
  go_enter Tryz.func47, Tryz.ntmps47
  go_wp2_with fail
  by_cases c1 : nr = 0 ∨ 256 < nr
  · refine (refOut_out _ _ _ _ (by omega)).mono ?_
    rintro e1 w1 ⟨rfl, rfl⟩
    have HE : Hid (S = 20) := by unfold Hid; rw [HS.out]; repeat (first | rw [if_pos (by omega)] | rw [if_neg (by omega)])
    clear HS
    go_wp2
    go_ret
    exact ⟨by rw [HE.out]; rfl, A1⟩
  refine (refOut_in _ _ _ _ (by omega) (by omega)).mono ?_
  rintro e1 w1 ⟨rfl, rfl⟩
  go_wp2_with fail
  by_cases c2 : fam < 0 ∨ 8 ≤ fam
  · refine (refOut_out _ _ _ _ (by omega)).mono ?_
    rintro e1 w1 ⟨rfl, rfl⟩
    have HE : Hid (S = 21) := by unfold Hid; rw [HS.out]; repeat (first | rw [if_pos (by omega)] | rw [if_neg (by omega)])
    clear HS
    go_wp2
    go_ret
    exact ⟨by rw [HE.out]; rfl, A1⟩
  refine (refOut_in _ _ _ _ (by omega) (by omega)).mono ?_
  rintro e1 w1 ⟨rfl, rfl⟩
  by_cases c3 : 256 < nq
  · have q1 : (256 : Int) < (nq : Int) := by omega
    have HE : Hid (S = 22) := by unfold Hid; rw [HS.out]; repeat (first | rw [if_pos (by omega)] | rw [if_neg (by omega)])
    clear HS
    go_wp2
    go_ret
    exact ⟨by rw [HE.out]; rfl, A1⟩
  have q1 : (nq : Int) ≤ 256 := by omega
  by_cases k5 : kind = 5
  · subst k5
    by_cases q0 : 0 < nq
    · have q2 : (0 : Int) < (nq : Int) := by omega
      have HE : Hid (S = 22) := by unfold Hid; rw [HS.out]; repeat (first | rw [if_pos (by omega)] | rw [if_neg (by omega)])
      clear HS
      go_wp2
      go_ret
      exact ⟨by rw [HE.out]; rfl, A1⟩
    have q2 : (nq : Int) ≤ 0 := by omega
    go_wp2_with fail
    by_cases c4 : ts < 1 ∨ 1099511627776 < ts
    · refine (refOut_out _ _ _ _ (by omega)).mono ?_
      rintro e1 w1 ⟨rfl, rfl⟩
      have HE : Hid (S = 23) := by unfold Hid; rw [HS.out]; repeat (first | rw [if_pos (by omega)] | rw [if_neg (by omega)])
      clear HS
      go_wp2
      go_ret
      exact ⟨by rw [HE.out]; rfl, A1⟩
    refine (refOut_in _ _ _ _ (by omega) (by omega)).mono ?_
    rintro e1 w1 ⟨rfl, rfl⟩
    go_wp2_with fail
    by_cases c5 : seq < 0 ∨ 17592186044431 < seq
    · refine (refOut_out _ _ _ _ (by omega)).mono ?_
      rintro e1 w1 ⟨rfl, rfl⟩
      have HE : Hid (S = 24) := by unfold Hid; rw [HS.out]; repeat (first | rw [if_pos (by omega)] | rw [if_neg (by omega)])
      clear HS
      go_wp2
      go_ret
      exact ⟨by rw [HE.out]; rfl, A1⟩
    refine (refOut_in _ _ _ _ (by omega) (by omega)).mono ?_
    rintro e1 w1 ⟨rfl, rfl⟩
    go_wp2_with fail
    refine (refOut_in _ _ _ _ (by decide) (by decide)).mono ?_
    rintro e1 w1 ⟨rfl, rfl⟩
    by_cases c7 : 4096 < nv
    · have v1 : (4096 : Int) < (nv : Int) := by omega
      have HE : Hid (S = 26) := by unfold Hid; rw [HS.out]; repeat (first | rw [if_pos (by omega)] | rw [if_neg (by omega)])
      clear HS
      go_wp2
      go_ret
      exact ⟨by rw [HE.out]; rfl, A1⟩
    have v1 : (nv : Int) ≤ 4096 := by omega
    by_cases c9 : 0 < nv
    · have v0 : (0 : Int) < (nv : Int) := by omega
      have HE : Hid (S = 26) := by unfold Hid; rw [HS.out]; repeat (first | rw [if_pos (by omega)] | rw [if_neg (by omega)])
      clear HS
      go_wp2
      go_ret
      exact ⟨by rw [HE.out]; rfl, A1⟩
    have v0 : (nv : Int) ≤ 0 := by omega
    have HE : Hid (S = 0) := by unfold Hid; rw [HS.out]; repeat (first | rw [if_pos (by omega)] | rw [if_neg (by omega)])
    clear HS
    go_wp2
    go_ret
    exact ⟨by rw [HE.out]; rfl, A1⟩
  have k51 : (kind == 5) = false := by simp; omega
  go_wp2_with fail
  by_cases c4 : ts < 1 ∨ 1099511627776 < ts
  · refine (refOut_out _ _ _ _ (by omega)).mono ?_
    rintro e1 w1 ⟨rfl, rfl⟩
    have HE : Hid (S = 23) := by unfold Hid; rw [HS.out]; repeat (first | rw [if_pos (by omega)] | rw [if_neg (by omega)])
    clear HS
    go_wp2
    go_ret
    exact ⟨by rw [HE.out]; rfl, A1⟩
  refine (refOut_in _ _ _ _ (by omega) (by omega)).mono ?_
  rintro e1 w1 ⟨rfl, rfl⟩
  go_wp2_with fail
  by_cases c5 : seq < 0 ∨ 17592186044431 < seq
  · refine (refOut_out _ _ _ _ (by omega)).mono ?_
    rintro e1 w1 ⟨rfl, rfl⟩
    have HE : Hid (S = 24) := by unfold Hid; rw [HS.out]; repeat (first | rw [if_pos (by omega)] | rw [if_neg (by omega)])
    clear HS
    go_wp2
    go_ret
    exact ⟨by rw [HE.out]; rfl, A1⟩
  refine (refOut_in _ _ _ _ (by omega) (by omega)).mono ?_
  rintro e1 w1 ⟨rfl, rfl⟩
  go_wp2_with fail
  by_cases c6 : kind < 1 ∨ 5 < kind
  · refine (refOut_out _ _ _ _ (by omega)).mono ?_
    rintro e1 w1 ⟨rfl, rfl⟩
    have HE : Hid (S = 25) := by unfold Hid; rw [HS.out]; repeat (first | rw [if_pos (by omega)] | rw [if_neg (by omega)])
    clear HS
    go_wp2
    go_ret
    exact ⟨by rw [HE.out]; rfl, A1⟩
  refine (refOut_in _ _ _ _ (by omega) (by omega)).mono ?_
  rintro e1 w1 ⟨rfl, rfl⟩
  by_cases c7 : 4096 < nv
  · have v1 : (4096 : Int) < (nv : Int) := by omega
    have HE : Hid (S = 26) := by unfold Hid; rw [HS.out]; repeat (first | rw [if_pos (by omega)] | rw [if_neg (by omega)])
    clear HS
    go_wp2
    go_ret
    exact ⟨by rw [HE.out]; rfl, A1⟩
  have v1 : (nv : Int) ≤ 4096 := by omega
  by_cases c8 : kind = 1
  · subst c8
    have HE : Hid (S = 0) := by unfold Hid; rw [HS.out]; repeat (first | rw [if_pos (by omega)] | rw [if_neg (by omega)])
    clear HS
    go_wp2
    go_ret
    exact ⟨by rw [HE.out]; rfl, A1⟩
  have k1 : (kind != 1) = true := by simp; omega
  have k2 : (kind == 1) = false := by simp; omega
  by_cases c9 : 0 < nv
  · have v0 : (0 : Int) < (nv : Int) := by omega
    have HE : Hid (S = 26) := by unfold Hid; rw [HS.out]; repeat (first | rw [if_pos (by omega)] | rw [if_neg (by omega)])
    clear HS
    go_wp2
    go_ret
    exact ⟨by rw [HE.out]; rfl, A1⟩
  have v0 : (nv : Int) ≤ 0 := by omega
  have HE : Hid (S = 0) := by unfold Hid; rw [HS.out]; repeat (first | rw [if_pos (by omega)] | rw [if_neg (by omega)])
  clear HS
  go_wp2
  go_ret
  exact ⟨by rw [HE.out]; rfl, A1⟩

end Go.Proofs.YtchebhafabhabaaGreatDoor

namespace Go.Proofs.YtchebhafabhabaaGreatDoor
open Go.RowKit
set_option linter.unusedVariables false

set_option maxRecDepth 100000 in
set_option maxHeartbeats 4000000 in
theorem refkey_any {e : EntD} {w : World} (hok : EntD.Ok w e) (hc : checkS e = 0) :
    Calls Tryz.prog 78 #[.agg e.cells] w fun r w' => ∃ a m c, r = .returned (.slice a m c) ∧ Own w' w.heap.size (.slice a m c) m (keyL e) ∧ Below w.heap.size w w' := by
  obtain ⟨f1, f2, f3, f4, f5, f6, f7, _, _⟩ := check_facts hc
  have A1 := (Below.refl w.heap.size w).alloc (Nat.le_refl _) (.cells e.cells 40)
  have bx1 : Hid (EBox (w.alloc (.cells e.cells 40)) w.heap.size e) := EBox.new w e
  obtain ⟨vr, fam, vq, ts, seq, kind, vv, row, qual, val⟩ := e
  obtain ⟨h1, h2, h3⟩ := hok
  simp only [EntD.cells] at *
  obtain ⟨fm, rfl⟩ := Int.eq_ofNat_of_zero_le f2.1
  obtain ⟨t, rfl⟩ := Int.eq_ofNat_of_zero_le (show 0 ≤ ts by omega)
  obtain ⟨sq, rfl⟩ := Int.eq_ofNat_of_zero_le f6.1
  obtain ⟨kd, rfl⟩ := Int.eq_ofNat_of_zero_le (show 0 ≤ kind by omega)
  have HOR : Hid ((ordL row).length ≤ 514 ∧ Bys (ordL row)) := ⟨by have := ordL_len row; have : row.count 0 ≤ row.length := List.count_le_length; omega, ordL_bys row h1.1⟩
  have HOQ : Hid ((ordL qual).length ≤ 514 ∧ Bys (ordL qual)) := ⟨by have := ordL_len qual; have : qual.count 0 ≤ qual.length := List.count_le_length; omega, ordL_bys qual h2.1⟩
  have hfm : fm < 8 := by omega
  have hkd : kd ≤ 5 := by omega
  have hts : t < 9223372036854775808 := by omega
  have hsq : sq < 9223372036854775808 := by omega
  have em1 : (fm : Int) % 256 = (fm : Int) := by omega
  have em2 : (kd : Int) % 256 = (kd : Int) := by omega
  have HRR : Hid (Rd w vr row) := h1
  have HRQ : Hid (Rd w vq qual) := h2
  clear h1 h2 h3 f1 f2 f3 f5 f6 f7 f4 hc
  go_enter Tryz.func78, Tryz.ntmps78
  go_wp2_with fail
  refine (refOrdered_any (HRR.out.later A1) (by have := HOR.out.1; omega)).mono ?_
  rintro e1 w1 ⟨a1, m1, c1, rfl, own1x, hb1⟩
  have B1 := A1.trans (hb1.mono A1.size)
  have bxw1 : Hid (EBox w1 w.heap.size _) := bx1.out.later hb1
  have hG : w.heap.size < w.heap.size + 1 := by omega
  have own1 : Own w1 (w.heap.size + 1) (.slice a1 m1 c1) m1 (ordL row) := by simpa using own1x
  have hS1 : w.heap.size + 1 ≤ w1.heap.size := by have := hb1.size; simpa using this
  have hm1 : m1 ≤ 514 := by rw [own1.1]; exact HOR.out.1
  clear hb1 bx1 own1x A1
  have xfam1 := bxw1.out.fam
  simp only at xfam1
  go_wp2_with (at_builtin; refine wpList_append_new rfl _ _ rfl (w.heap.size + 1) a1 m1 c1 _ rfl own1 [_] 1 rfl [fm] (by first | rfl | (simp [bv]; done) | (simp [bv]; omega)) rfl (by omega) hS1 ?_; intro a2 m2 c2 w2 own2 hb2; refine Hid.out ?_)
  refine Lib.hid ?_
  have hm2 : m2 ≤ 515 := by rw [own2.1, List.length_append, ← own1.1]; simp; omega
  have bxw2 : Hid (EBox w2 w.heap.size _) := bxw1.out.keep hb2 hG
  have B2 := B1.trans (hb2.mono (Nat.le_of_lt hG))
  have hS2 : w.heap.size + 1 ≤ w2.heap.size := Nat.le_trans hS1 hb2.size
  clear bxw1 B1 hS1 hb2 own1 hm1
  clear xfam1
  by_cases hk5 : kd = 5
  · have HKL : Hid (keyL ⟨vr, (fm : Int), vq, (t : Int), (sq : Int), (kd : Int), vv, row, qual, val⟩ = ((((ordL row ++ [fm]) ++ [0]) ++ be8 (9223372036854775807 - t)) ++ be8 (9223372036854775807 - sq)) ++ [kd]) := by
      unfold Hid keyL mark
      have : (kd : Int) = 5 := by omega
      simp [this]
      omega
    have hkn : ((kd : Int) == 5) = true := by simp; omega
    have xkind2 := bxw2.out.kind
    simp only at xkind2
    go_wp2_with (at_builtin; refine wpList_append_new rfl _ _ rfl (w.heap.size + 1) a2 m2 c2 _ rfl own2 [_] 1 rfl [0] (by first | rfl | (simp [bv]; done) | (simp [bv]; omega)) rfl (by omega) hS2 ?_; intro a3 m3 c3 w3 own3 hb3; refine Hid.out ?_)
    refine Lib.hid ?_
    have hm3 : m3 ≤ 516 := by rw [own3.1, List.length_append, ← own2.1]; simp; omega
    have bxw3 : Hid (EBox w3 w.heap.size _) := bxw2.out.keep hb3 hG
    have B3 := B2.trans (hb3.mono (Nat.le_of_lt hG))
    have hS3 : w.heap.size + 1 ≤ w3.heap.size := Nat.le_trans hS2 hb3.size
    clear bxw2 B2 hS2 hb3 own2 hm2
    clear xkind2
    have xts3 := bxw3.out.ts
    simp only at xts3
    go_wp2_with fail
    refine (refFalling_any t hts _).mono ?_
    rintro e7 w7 ⟨a7, m7, c7, rfl, own7, hb7⟩
    have hm7 : m7 = 8 := own7.1
    subst hm7
    have r7 : Rd w7 (.slice a7 8 c7) _ := own7.rd (be8_bys _) (by omega)
    have own67 := own3.later hb7
    have bxw7 : Hid (EBox w7 w.heap.size _) := bxw3.out.later hb7
    have B7 := B3.trans (hb7.mono B3.size)
    have hS7 : w.heap.size + 1 ≤ w7.heap.size := Nat.le_trans hS3 hb7.size
    clear bxw3 B3 hS3 hb7 own3 own7 xts3
    have xseq7 := bxw7.out.seq
    simp only at xseq7
    go_wp2_with fail
    refine (refFalling_any sq hsq _).mono ?_
    rintro e8 w8 ⟨a8, m8, c8, rfl, own8, hb8⟩
    have hm8 : m8 = 8 := own8.1
    subst hm8
    have r78 := r7.later hb8
    have own68 := own67.later hb8
    have HLT : Hid (∀ g, (Value.slice a3 m3 c3).ownBlock = some g → g < w7.heap.size) := fun g hg => (own67.2.lt g hg).2
    have bxw8 : Hid (EBox w8 w.heap.size _) := bxw7.out.later hb8
    have B8 := B7.trans (hb8.mono B7.size)
    have hS8 : w.heap.size + 1 ≤ w8.heap.size := Nat.le_trans hS7 hb8.size
    have R8 : Hid (Own w8 w7.heap.size (.slice a8 8 c8) 8 (be8 (9223372036854775807 - sq)) ∧ Below w7.heap.size w7 w8) := ⟨own8, hb8⟩
    clear bxw7 B7 hb8 own67 own8 xseq7 r7
    go_wp2_with (at_builtin; refine wpList_append_gr rfl _ _ rfl (w.heap.size + 1) a3 m3 c3 _ rfl own68 a7 8 c7 _ rfl r78 (by omega) hS8 ?_; intro a9 m9 c9 w9 own9 hb9 gr9; refine Hid.out ?_)
    refine Lib.hid ?_
    have hm9 : m9 ≤ 524 := by rw [own9.1, List.length_append, ← own68.1]; simp [be8]; omega
    have r9 : Rd w9 (.slice a8 8 c8) _ := (R8.out.1.grown gr9 HLT.out).rd (be8_bys _) (by omega)
    have bxw9 : Hid (EBox w9 w.heap.size _) := bxw8.out.keep hb9 hG
    have B9 := B8.trans (hb9.mono (Nat.le_of_lt hG))
    have hS9 : w.heap.size + 1 ≤ w9.heap.size := Nat.le_trans hS8 hb9.size
    clear bxw8 B8 hS8 hb9 own68 r78 R8 HLT gr9 hS7 hm3
    go_wp2_with (at_builtin; refine wpList_append_at rfl _ _ rfl (w.heap.size + 1) a9 m9 c9 _ rfl own9 a8 8 c8 _ rfl r9 (by omega) hS9 ?_; intro a10 m10 c10 w10 own10 hb10; refine Hid.out ?_)
    refine Lib.hid ?_
    have hm10 : m10 ≤ 532 := by rw [own10.1, List.length_append, ← own9.1]; simp [be8]; omega
    have bxw10 : Hid (EBox w10 w.heap.size _) := bxw9.out.keep hb10 hG
    have B10 := B9.trans (hb10.mono (Nat.le_of_lt hG))
    have hS10 : w.heap.size + 1 ≤ w10.heap.size := Nat.le_trans hS9 hb10.size
    clear bxw9 B9 hS9 hb10 own9 r9 hm9
    have xkind10 := bxw10.out.kind
    simp only at xkind10
    go_wp2_with (at_builtin; refine wpList_append_new rfl _ _ rfl (w.heap.size + 1) a10 m10 c10 _ rfl own10 [_] 1 rfl [kd] (by first | rfl | (simp [bv]; done) | (simp [bv]; omega)) rfl (by omega) hS10 ?_; intro a11 m11 c11 w11 own11 hb11)
    go_ret
    refine ⟨a11, m11, c11, rfl, ?_, B10.trans (hb11.mono (Nat.le_of_lt hG))⟩
    rw [HKL.out]
    exact own11.mono (Nat.le_of_lt hG)
  by_cases hk4c : kd = 4
  · have HKL : Hid (keyL ⟨vr, (fm : Int), vq, (t : Int), (sq : Int), (kd : Int), vv, row, qual, val⟩ = ((((((ordL row ++ [fm]) ++ [1]) ++ ordL qual) ++ [0]) ++ be8 (9223372036854775807 - t)) ++ be8 (9223372036854775807 - sq)) ++ [kd]) := by
      unfold Hid keyL mark
      have h4 : (kd : Int) = 4 := by omega
      simp [h4]
      omega
    have hkn : ((kd : Int) == 5) = false := by simp; omega
    have hk4 : ((kd : Int) == 4) = true := by simp; omega
    have xkind2 := bxw2.out.kind
    simp only at xkind2
    go_wp2_with (at_builtin; refine wpList_append_new rfl _ _ rfl (w.heap.size + 1) a2 m2 c2 _ rfl own2 [_] 1 rfl [1] (by first | rfl | (simp [bv]; done) | (simp [bv]; omega)) rfl (by omega) hS2 ?_; intro a3 m3 c3 w3 own3 hb3; refine Hid.out ?_)
    refine Lib.hid ?_
    have hm3 : m3 ≤ 516 := by rw [own3.1, List.length_append, ← own2.1]; simp; omega
    have bxw3 : Hid (EBox w3 w.heap.size _) := bxw2.out.keep hb3 hG
    have B3 := B2.trans (hb3.mono (Nat.le_of_lt hG))
    have hS3 : w.heap.size + 1 ≤ w3.heap.size := Nat.le_trans hS2 hb3.size
    clear bxw2 B2 hS2 hb3 own2 hm2
    clear xkind2
    have xvq3 := bxw3.out.vq
    simp only at xvq3
    go_wp2_with fail
    refine (refOrdered_any (HRQ.out.later B3) (by have := HOQ.out.1; omega)).mono ?_
    rintro e4 w4 ⟨a4, m4, c4, rfl, own4, hb4⟩
    have hm4 : m4 ≤ 514 := by rw [own4.1]; exact HOQ.out.1
    have r4 : Rd w4 (.slice a4 m4 c4) _ := own4.rd HOQ.out.2 (by omega)
    have own34 := own3.later hb4
    have bxw4 : Hid (EBox w4 w.heap.size _) := bxw3.out.later hb4
    have B4 := B3.trans (hb4.mono B3.size)
    have hS4 : w.heap.size + 1 ≤ w4.heap.size := Nat.le_trans hS3 hb4.size
    have HL4 : Hid (m4 = (ordL qual).length) := own4.1
    clear bxw3 B3 hS3 hb4 own3 own4 xvq3
    go_wp2_with (at_builtin; refine wpList_append_at rfl _ _ rfl (w.heap.size + 1) a3 m3 c3 _ rfl own34 a4 m4 c4 _ rfl r4 (by omega) hS4 ?_; intro a5 m5 c5 w5 own5 hb5; refine Hid.out ?_)
    refine Lib.hid ?_
    have hm5 : m5 ≤ 1030 := by rw [own5.1, List.length_append, ← own34.1, ← HL4.out]; omega
    have bxw5 : Hid (EBox w5 w.heap.size _) := bxw4.out.keep hb5 hG
    have B5 := B4.trans (hb5.mono (Nat.le_of_lt hG))
    have hS5 : w.heap.size + 1 ≤ w5.heap.size := Nat.le_trans hS4 hb5.size
    clear bxw4 B4 hS4 hb5 own34 r4 hm3 hm4 HL4
    have xkind5 := bxw5.out.kind
    simp only at xkind5
    go_wp2_with (at_builtin; refine wpList_append_new rfl _ _ rfl (w.heap.size + 1) a5 m5 c5 _ rfl own5 [_] 1 rfl [0] (by first | rfl | (simp [bv]; done) | (simp [bv]; omega)) rfl (by omega) hS5 ?_; intro a6 m6 c6 w6 own6 hb6; refine Hid.out ?_)
    refine Lib.hid ?_
    have hm6 : m6 ≤ 1031 := by rw [own6.1, List.length_append, ← own5.1]; simp; omega
    have bxw6 : Hid (EBox w6 w.heap.size _) := bxw5.out.keep hb6 hG
    have B6 := B5.trans (hb6.mono (Nat.le_of_lt hG))
    have hS6 : w.heap.size + 1 ≤ w6.heap.size := Nat.le_trans hS5 hb6.size
    clear bxw5 B5 hS5 hb6 own5 hm5
    clear xkind5
    have xts6 := bxw6.out.ts
    simp only at xts6
    go_wp2_with fail
    refine (refFalling_any t hts _).mono ?_
    rintro e7 w7 ⟨a7, m7, c7, rfl, own7, hb7⟩
    have hm7 : m7 = 8 := own7.1
    subst hm7
    have r7 : Rd w7 (.slice a7 8 c7) _ := own7.rd (be8_bys _) (by omega)
    have own67 := own6.later hb7
    have bxw7 : Hid (EBox w7 w.heap.size _) := bxw6.out.later hb7
    have B7 := B6.trans (hb7.mono B6.size)
    have hS7 : w.heap.size + 1 ≤ w7.heap.size := Nat.le_trans hS6 hb7.size
    clear bxw6 B6 hS6 hb7 own6 own7 xts6
    have xseq7 := bxw7.out.seq
    simp only at xseq7
    go_wp2_with fail
    refine (refFalling_any sq hsq _).mono ?_
    rintro e8 w8 ⟨a8, m8, c8, rfl, own8, hb8⟩
    have hm8 : m8 = 8 := own8.1
    subst hm8
    have r78 := r7.later hb8
    have own68 := own67.later hb8
    have HLT : Hid (∀ g, (Value.slice a6 m6 c6).ownBlock = some g → g < w7.heap.size) := fun g hg => (own67.2.lt g hg).2
    have bxw8 : Hid (EBox w8 w.heap.size _) := bxw7.out.later hb8
    have B8 := B7.trans (hb8.mono B7.size)
    have hS8 : w.heap.size + 1 ≤ w8.heap.size := Nat.le_trans hS7 hb8.size
    have R8 : Hid (Own w8 w7.heap.size (.slice a8 8 c8) 8 (be8 (9223372036854775807 - sq)) ∧ Below w7.heap.size w7 w8) := ⟨own8, hb8⟩
    clear bxw7 B7 hb8 own67 own8 xseq7 r7
    go_wp2_with (at_builtin; refine wpList_append_gr rfl _ _ rfl (w.heap.size + 1) a6 m6 c6 _ rfl own68 a7 8 c7 _ rfl r78 (by omega) hS8 ?_; intro a9 m9 c9 w9 own9 hb9 gr9; refine Hid.out ?_)
    refine Lib.hid ?_
    have hm9 : m9 ≤ 1039 := by rw [own9.1, List.length_append, ← own68.1]; simp [be8]; omega
    have r9 : Rd w9 (.slice a8 8 c8) _ := (R8.out.1.grown gr9 HLT.out).rd (be8_bys _) (by omega)
    have bxw9 : Hid (EBox w9 w.heap.size _) := bxw8.out.keep hb9 hG
    have B9 := B8.trans (hb9.mono (Nat.le_of_lt hG))
    have hS9 : w.heap.size + 1 ≤ w9.heap.size := Nat.le_trans hS8 hb9.size
    clear bxw8 B8 hS8 hb9 own68 r78 R8 HLT gr9 hS7 hm6
    go_wp2_with (at_builtin; refine wpList_append_at rfl _ _ rfl (w.heap.size + 1) a9 m9 c9 _ rfl own9 a8 8 c8 _ rfl r9 (by omega) hS9 ?_; intro a10 m10 c10 w10 own10 hb10; refine Hid.out ?_)
    refine Lib.hid ?_
    have hm10 : m10 ≤ 1047 := by rw [own10.1, List.length_append, ← own9.1]; simp [be8]; omega
    have bxw10 : Hid (EBox w10 w.heap.size _) := bxw9.out.keep hb10 hG
    have B10 := B9.trans (hb10.mono (Nat.le_of_lt hG))
    have hS10 : w.heap.size + 1 ≤ w10.heap.size := Nat.le_trans hS9 hb10.size
    clear bxw9 B9 hS9 hb10 own9 r9 hm9
    have xkind10 := bxw10.out.kind
    simp only at xkind10
    go_wp2_with (at_builtin; refine wpList_append_new rfl _ _ rfl (w.heap.size + 1) a10 m10 c10 _ rfl own10 [_] 1 rfl [kd] (by first | rfl | (simp [bv]; done) | (simp [bv]; omega)) rfl (by omega) hS10 ?_; intro a11 m11 c11 w11 own11 hb11)
    go_ret
    refine ⟨a11, m11, c11, rfl, ?_, B10.trans (hb11.mono (Nat.le_of_lt hG))⟩
    rw [HKL.out]
    exact own11.mono (Nat.le_of_lt hG)
  · have HKL : Hid (keyL ⟨vr, (fm : Int), vq, (t : Int), (sq : Int), (kd : Int), vv, row, qual, val⟩ = ((((((ordL row ++ [fm]) ++ [1]) ++ ordL qual) ++ [1]) ++ be8 (9223372036854775807 - t)) ++ be8 (9223372036854775807 - sq)) ++ [kd]) := by
      unfold Hid keyL mark
      have h4 : ¬ ((kd : Int) = 4) := by omega
      have h5 : ¬ ((kd : Int) = 5) := by omega
      simp [h4, h5]
    have hkn : ((kd : Int) == 5) = false := by simp; omega
    have hk4 : ((kd : Int) == 4) = false := by simp; omega
    have xkind2 := bxw2.out.kind
    simp only at xkind2
    go_wp2_with (at_builtin; refine wpList_append_new rfl _ _ rfl (w.heap.size + 1) a2 m2 c2 _ rfl own2 [_] 1 rfl [1] (by first | rfl | (simp [bv]; done) | (simp [bv]; omega)) rfl (by omega) hS2 ?_; intro a3 m3 c3 w3 own3 hb3; refine Hid.out ?_)
    refine Lib.hid ?_
    have hm3 : m3 ≤ 516 := by rw [own3.1, List.length_append, ← own2.1]; simp; omega
    have bxw3 : Hid (EBox w3 w.heap.size _) := bxw2.out.keep hb3 hG
    have B3 := B2.trans (hb3.mono (Nat.le_of_lt hG))
    have hS3 : w.heap.size + 1 ≤ w3.heap.size := Nat.le_trans hS2 hb3.size
    clear bxw2 B2 hS2 hb3 own2 hm2
    clear xkind2
    have xvq3 := bxw3.out.vq
    simp only at xvq3
    go_wp2_with fail
    refine (refOrdered_any (HRQ.out.later B3) (by have := HOQ.out.1; omega)).mono ?_
    rintro e4 w4 ⟨a4, m4, c4, rfl, own4, hb4⟩
    have hm4 : m4 ≤ 514 := by rw [own4.1]; exact HOQ.out.1
    have r4 : Rd w4 (.slice a4 m4 c4) _ := own4.rd HOQ.out.2 (by omega)
    have own34 := own3.later hb4
    have bxw4 : Hid (EBox w4 w.heap.size _) := bxw3.out.later hb4
    have B4 := B3.trans (hb4.mono B3.size)
    have hS4 : w.heap.size + 1 ≤ w4.heap.size := Nat.le_trans hS3 hb4.size
    have HL4 : Hid (m4 = (ordL qual).length) := own4.1
    clear bxw3 B3 hS3 hb4 own3 own4 xvq3
    go_wp2_with (at_builtin; refine wpList_append_at rfl _ _ rfl (w.heap.size + 1) a3 m3 c3 _ rfl own34 a4 m4 c4 _ rfl r4 (by omega) hS4 ?_; intro a5 m5 c5 w5 own5 hb5; refine Hid.out ?_)
    refine Lib.hid ?_
    have hm5 : m5 ≤ 1030 := by rw [own5.1, List.length_append, ← own34.1, ← HL4.out]; omega
    have bxw5 : Hid (EBox w5 w.heap.size _) := bxw4.out.keep hb5 hG
    have B5 := B4.trans (hb5.mono (Nat.le_of_lt hG))
    have hS5 : w.heap.size + 1 ≤ w5.heap.size := Nat.le_trans hS4 hb5.size
    clear bxw4 B4 hS4 hb5 own34 r4 hm3 hm4 HL4
    have xkind5 := bxw5.out.kind
    simp only at xkind5
    go_wp2_with (at_builtin; refine wpList_append_new rfl _ _ rfl (w.heap.size + 1) a5 m5 c5 _ rfl own5 [_] 1 rfl [1] (by first | rfl | (simp [bv]; done) | (simp [bv]; omega)) rfl (by omega) hS5 ?_; intro a6 m6 c6 w6 own6 hb6; refine Hid.out ?_)
    refine Lib.hid ?_
    have hm6 : m6 ≤ 1031 := by rw [own6.1, List.length_append, ← own5.1]; simp; omega
    have bxw6 : Hid (EBox w6 w.heap.size _) := bxw5.out.keep hb6 hG
    have B6 := B5.trans (hb6.mono (Nat.le_of_lt hG))
    have hS6 : w.heap.size + 1 ≤ w6.heap.size := Nat.le_trans hS5 hb6.size
    clear bxw5 B5 hS5 hb6 own5 hm5
    clear xkind5
    have xts6 := bxw6.out.ts
    simp only at xts6
    go_wp2_with fail
    refine (refFalling_any t hts _).mono ?_
    rintro e7 w7 ⟨a7, m7, c7, rfl, own7, hb7⟩
    have hm7 : m7 = 8 := own7.1
    subst hm7
    have r7 : Rd w7 (.slice a7 8 c7) _ := own7.rd (be8_bys _) (by omega)
    have own67 := own6.later hb7
    have bxw7 : Hid (EBox w7 w.heap.size _) := bxw6.out.later hb7
    have B7 := B6.trans (hb7.mono B6.size)
    have hS7 : w.heap.size + 1 ≤ w7.heap.size := Nat.le_trans hS6 hb7.size
    clear bxw6 B6 hS6 hb7 own6 own7 xts6
    have xseq7 := bxw7.out.seq
    simp only at xseq7
    go_wp2_with fail
    refine (refFalling_any sq hsq _).mono ?_
    rintro e8 w8 ⟨a8, m8, c8, rfl, own8, hb8⟩
    have hm8 : m8 = 8 := own8.1
    subst hm8
    have r78 := r7.later hb8
    have own68 := own67.later hb8
    have HLT : Hid (∀ g, (Value.slice a6 m6 c6).ownBlock = some g → g < w7.heap.size) := fun g hg => (own67.2.lt g hg).2
    have bxw8 : Hid (EBox w8 w.heap.size _) := bxw7.out.later hb8
    have B8 := B7.trans (hb8.mono B7.size)
    have hS8 : w.heap.size + 1 ≤ w8.heap.size := Nat.le_trans hS7 hb8.size
    have R8 : Hid (Own w8 w7.heap.size (.slice a8 8 c8) 8 (be8 (9223372036854775807 - sq)) ∧ Below w7.heap.size w7 w8) := ⟨own8, hb8⟩
    clear bxw7 B7 hb8 own67 own8 xseq7 r7
    go_wp2_with (at_builtin; refine wpList_append_gr rfl _ _ rfl (w.heap.size + 1) a6 m6 c6 _ rfl own68 a7 8 c7 _ rfl r78 (by omega) hS8 ?_; intro a9 m9 c9 w9 own9 hb9 gr9; refine Hid.out ?_)
    refine Lib.hid ?_
    have hm9 : m9 ≤ 1039 := by rw [own9.1, List.length_append, ← own68.1]; simp [be8]; omega
    have r9 : Rd w9 (.slice a8 8 c8) _ := (R8.out.1.grown gr9 HLT.out).rd (be8_bys _) (by omega)
    have bxw9 : Hid (EBox w9 w.heap.size _) := bxw8.out.keep hb9 hG
    have B9 := B8.trans (hb9.mono (Nat.le_of_lt hG))
    have hS9 : w.heap.size + 1 ≤ w9.heap.size := Nat.le_trans hS8 hb9.size
    clear bxw8 B8 hS8 hb9 own68 r78 R8 HLT gr9 hS7 hm6
    go_wp2_with (at_builtin; refine wpList_append_at rfl _ _ rfl (w.heap.size + 1) a9 m9 c9 _ rfl own9 a8 8 c8 _ rfl r9 (by omega) hS9 ?_; intro a10 m10 c10 w10 own10 hb10; refine Hid.out ?_)
    refine Lib.hid ?_
    have hm10 : m10 ≤ 1047 := by rw [own10.1, List.length_append, ← own9.1]; simp [be8]; omega
    have bxw10 : Hid (EBox w10 w.heap.size _) := bxw9.out.keep hb10 hG
    have B10 := B9.trans (hb10.mono (Nat.le_of_lt hG))
    have hS10 : w.heap.size + 1 ≤ w10.heap.size := Nat.le_trans hS9 hb10.size
    clear bxw9 B9 hS9 hb10 own9 r9 hm9
    have xkind10 := bxw10.out.kind
    simp only at xkind10
    go_wp2_with (at_builtin; refine wpList_append_new rfl _ _ rfl (w.heap.size + 1) a10 m10 c10 _ rfl own10 [_] 1 rfl [kd] (by first | rfl | (simp [bv]; done) | (simp [bv]; omega)) rfl (by omega) hS10 ?_; intro a11 m11 c11 w11 own11 hb11)
    go_ret
    refine ⟨a11, m11, c11, rfl, ?_, B10.trans (hb11.mono (Nat.le_of_lt hG))⟩
    rw [HKL.out]
    exact own11.mono (Nat.le_of_lt hG)

set_option maxRecDepth 100000 in
set_option maxHeartbeats 4000000 in
theorem refKey_ok {e : EntD} {w : World} (hok : EntD.Ok w e) (hc : checkS e = 0) :
    Calls Tryz.prog 35 #[.agg e.cells] w fun r w' => ∃ a m c, r = .returned (.tuple #[.slice a m c, .int .i64 0]) ∧ Own w' w.heap.size (.slice a m c) m (keyL e) ∧ Below w.heap.size w w' := by
  have A1 := (Below.refl w.heap.size w).alloc (Nat.le_refl _) (.cells e.cells 40)
  have bx1 : Hid (EBox (w.alloc (.cells e.cells 40)) w.heap.size e) := EBox.new w e
  have HK : Hid (EntD.Ok w e) := hok
  have c1 := refCheck_any (hok.later A1)
  rw [hc] at c1
  have HC : Hid (Calls _ _ _ _ _) := c1
  have HC2 : Hid (∀ w', EntD.Ok w' e → Calls Tryz.prog 78 #[.agg e.cells] w' fun r w'' => ∃ a m c, r = .returned (.slice a m c) ∧ Own w'' w'.heap.size (.slice a m c) m (keyL e) ∧ Below w'.heap.size w' w'') := fun w' h => refkey_any h hc
  clear hok c1 hc
  simp only [EntD.cells] at *
  go_enter Tryz.func35, Tryz.ntmps35
  go_wp2_with fail
  refine HC.out.mono ?_
  rintro e1 w1 ⟨rfl, hb1⟩
  have B1 := A1.trans (hb1.mono A1.size)
  have bx2 := bx1.out.later hb1
  have x0 := bx2.vr
  have x1 := bx2.fam
  have x2 := bx2.vq
  have x3 := bx2.ts
  have x4 := bx2.seq
  have x5 := bx2.kind
  have x6 := bx2.vv
  clear bx1 hb1 bx2 A1
  go_wp2_with fail
  refine (HC2.out _ (HK.out.later B1)).mono ?_
  rintro e2 w2 ⟨a2, m2, c2, rfl, own2, hb2⟩
  go_wp2
  go_ret2
  exact ⟨a2, m2, c2, rfl, own2.mono B1.size, B1.trans (hb2.mono B1.size)⟩

set_option maxRecDepth 100000 in
set_option maxHeartbeats 4000000 in
theorem refKey_bad {e : EntD} {w : World} (hok : EntD.Ok w e) (hc : checkS e ≠ 0) :
    Calls Tryz.prog 35 #[.agg e.cells] w fun r w' => r = .returned (.tuple #[.slice none 0 0, .int .i64 ((checkS e : Nat) : Int)]) ∧ Below w.heap.size w w' := by
  obtain ⟨C, hC⟩ : ∃ C, C = checkS e := ⟨_, rfl⟩
  have A1 := (Below.refl w.heap.size w).alloc (Nat.le_refl _) (.cells e.cells 40)
  have c1 := refCheck_any (hok.later A1)
  rw [← hC] at c1 hc ⊢
  have HC1 : Hid (Calls _ _ _ _ _) := c1
  have h0 : ((C : Int) != 0) = true := by simp; omega
  have h1 : ¬ ((C : Int) = 0) := by omega
  clear c1 hC hok
  simp only [EntD.cells] at *
  go_enter Tryz.func35, Tryz.ntmps35
  go_wp2_with fail
  refine HC1.out.mono ?_
  rintro e1 w1 ⟨rfl, hb1⟩
  have B1 := A1.trans (hb1.mono A1.size)
  go_wp2
  go_ret2
  exact ⟨rfl, B1⟩

end Go.Proofs.YtchebhafabhabaaGreatDoor

namespace Go.Proofs.YtchebhafabhabaaGreatDoor
open Go.RowKit
set_option linter.unusedVariables false

set_option maxRecDepth 100000 in
set_option maxHeartbeats 1000000 in
theorem same5_any {va vb : Value} {xs ys : List Nat} {w : World} (ha : Rd w va xs) (hb : Rd w vb ys) :
    Calls Tryz.prog 20 #[va, vb] w fun e w' => e = .returned (.bool (decide (xs = ys))) ∧ Below w.heap.size w w' := by
  obtain ⟨a, n, cap, rfl⟩ := rd_slice ha
  obtain ⟨b, m, capb, rfl⟩ := rd_slice hb
  obtain ⟨hn, _, _, hn48⟩ := rd_lens ha
  obtain ⟨hm, _, _, hm48⟩ := rd_lens hb
  have HN : Hid (n = xs.length) := hn
  have HM : Hid (m = ys.length) := hm
  clear hn hm
  by_cases hnm : n = m
  · subst hnm
    go_enter Tryz.func20, Tryz.ntmps20
    go_wp2
    go_loopw [5] (fun i wr => ∃ t : Nat, t ≤ n ∧ i = .int .i64 (t : Int) ∧ xs.take t = ys.take t ∧ Below w.heap.size w wr) (fun i _ => n - (intOf i).toNat)
    case atStart => exact ⟨0, by omega, rfl, rfl, Below.refl _ _⟩
    case round =>
      obtain ⟨t, htn, rfl, heq, hbk⟩ := hrel
      have HQ : Hid (xs.take t = ys.take t) := heq
      clear heq
      by_cases h1 : t < n
      · have h1' : (t : Int) < (n : Int) := by omega
        have ht0 : (0 : Int) ≤ (t : Int) := by omega
        rcases rd_some ha with ⟨_, h0, _⟩ | ⟨ba, oa, rfl⟩
        · omega
        rcases rd_some hb with ⟨_, h0, _⟩ | ⟨bb, ob, rfl⟩
        · omega
        obtain ⟨ca0, cal⟩ := rd_cell ha t h1
        obtain ⟨cb0, cbl⟩ := rd_cell hb t h1
        have ca : wr.cell? ⟨ba, oa + t, none⟩ = some (.int .u8 ((xs.getD t 0 : Nat) : Int)) := by
          rw [hbk.cell (p := ⟨ba, oa + t, none⟩) (World.block_lt_of_cell? w _ ca0)]; exact ca0
        have cb : wr.cell? ⟨bb, ob + t, none⟩ = some (.int .u8 ((ys.getD t 0 : Nat) : Int)) := by
          rw [hbk.cell (p := ⟨bb, ob + t, none⟩) (World.block_lt_of_cell? w _ cb0)]; exact cb0
        have HTE : Hid (xs.getD t 0 = ys.getD t 0 → xs.take (t + 1) = ys.take (t + 1)) := fun e => take_eq (by rw [← HN.out]; exact h1) (by rw [← HM.out]; exact h1) HQ.out e
        have HNE : Hid (xs.getD t 0 ≠ ys.getD t 0 → xs ≠ ys) := fun e h => e (by rw [h])
        obtain ⟨x, hx⟩ : ∃ x, x = xs.getD t 0 := ⟨_, rfl⟩
        obtain ⟨y, hy⟩ : ∃ y, y = ys.getD t 0 := ⟨_, rfl⟩
        rw [← hx] at ca cal HTE HNE
        rw [← hy] at cb cbl HTE HNE
        clear hx hy ca0 cb0
        by_cases hxy : x = y
        · subst hxy
          go_wp2
          go_quiet (fail)
          go_wp2
          go_roundw
          case rel => exact ⟨t + 1, by omega, by go_num, HTE.out trivial, below_drewN hbk _⟩
          case measure => simp [intOf]; omega
        · have hxy' : ¬ ((x : Int) = (y : Int)) := by omega
          go_wp2
          go_quiet (fail)
          go_wp2
          go_ret
          rw [decide_eq_false (HNE.out hxy)]
          exact ⟨rfl, below_drewN hbk _⟩
      · have h1' : (n : Int) ≤ (t : Int) := by omega
        go_wp2
        go_ret
        have e : xs = ys := by
          have := HQ.out
          rw [List.take_of_length_le (by rw [← HN.out]; omega), List.take_of_length_le (by rw [← HM.out]; omega)] at this
          exact this
        rw [decide_eq_true e]
        exact ⟨rfl, hbk⟩
  · have hnm' : ¬ ((n : Int) = (m : Int)) := by omega
    go_enter Tryz.func20, Tryz.ntmps20
    go_wp2
    go_ret
    rw [decide_eq_false (fun e => hnm (by rw [HN.out, HM.out, e]))]
    exact ⟨rfl, Below.refl _ _⟩

instance (a b : EntD) : Decidable (EntD.Same a b) := by unfold EntD.Same; infer_instance

set_option maxRecDepth 100000 in
set_option maxHeartbeats 8000000 in
theorem se_any {a b : EntD} {w : World} (ha : EntD.Ok w a) (hb : EntD.Ok w b) :
    Calls Tryz.prog 33 #[.agg a.cells, .agg b.cells] w fun r w' => r = .returned (.bool (decide (EntD.Same a b))) ∧ Below w.heap.size w w' := by
  have A1 := (Below.refl w.heap.size w).alloc (Nat.le_refl _) (.cells a.cells 40)
  have A2 := A1.alloc A1.size (.cells b.cells 40)
  have bxa0 := (EBox.new w a).later ((Below.refl (w.alloc (.cells a.cells 40)).heap.size (w.alloc (.cells a.cells 40))).alloc (Nat.le_refl _) (.cells b.cells 40))
  have bxb0 := EBox.new (w.alloc (.cells a.cells 40)) b
  rw [World.size_alloc] at bxb0
  obtain ⟨V, hV⟩ : ∃ V, V = (w.alloc (.cells a.cells 40)).alloc (.cells b.cells 40) := ⟨_, rfl⟩
  rw [← hV] at A2 bxa0 bxb0
  have HV : Hid (V = _) := hV
  clear hV A1
  have HX : Hid (EBox V w.heap.size a ∧ EBox V (w.heap.size + 1) b ∧ Below w.heap.size w V) := ⟨bxa0, bxb0, A2⟩
  have HA : Hid (∀ wx, Below V.heap.size V wx → EntD.Ok wx a ∧ EntD.Ok wx b ∧ EBox wx w.heap.size a ∧ EBox wx (w.heap.size + 1) b) := fun wx q => ⟨(ha.later A2).later q, (hb.later A2).later q, bxa0.later q, bxb0.later q⟩
  obtain ⟨c0, c1, c2, c3, c4, c5, c6⟩ := (⟨bxa0.vr, bxa0.fam, bxa0.vq, bxa0.ts, bxa0.seq, bxa0.kind, bxa0.vv⟩ : _ ∧ _ ∧ _ ∧ _ ∧ _ ∧ _ ∧ _)
  obtain ⟨d0, d1, d2, d3, d4, d5, d6⟩ := (⟨bxb0.vr, bxb0.fam, bxb0.vq, bxb0.ts, bxb0.seq, bxb0.kind, bxb0.vv⟩ : _ ∧ _ ∧ _ ∧ _ ∧ _ ∧ _ ∧ _)
  clear A2 bxa0 bxb0 ha hb
  obtain ⟨va, fa, qa, ta, sa, ka, wa, ra, la, ya⟩ := a
  obtain ⟨vb, fb, qb, tb, sb, kb, wb, rb, lb, yb⟩ := b
  simp only [EntD.cells] at *
  by_cases h1 : fa = fb
  · by_cases h2 : ta = tb
    · by_cases h3 : sa = sb
      · by_cases h4 : ka = kb
        · subst h1 h2 h3 h4
          go_enter Tryz.func33, Tryz.ntmps33
          go_wp2_with fail
          rw [← HV.out]
          go_wp2_with fail
          refine (same5_any (HA.out _ (Below.refl _ _)).1.1 (HA.out _ (Below.refl _ _)).2.1.1).mono ?_
          rintro e w1 ⟨rfl, hb1⟩
          by_cases e1 : ra = rb
          · rw [decide_eq_true e1]
            have x2 := (HA.out _ hb1).2.2.1.vq
            have y2 := (HA.out _ hb1).2.2.2.vq
            simp only at x2 y2
            go_wp2_with fail
            refine (same5_any (HA.out _ hb1).1.2.1 (HA.out _ hb1).2.1.2.1).mono ?_
            rintro e w2 ⟨rfl, hb2⟩
            have B2 := hb1.trans (hb2.mono hb1.size)
            by_cases e2 : la = lb
            · rw [decide_eq_true e2]
              have x6 := (HA.out _ B2).2.2.1.vv
              have y6 := (HA.out _ B2).2.2.2.vv
              simp only at x6 y6
              go_wp2_with fail
              refine (same5_any (HA.out _ B2).1.2.2 (HA.out _ B2).2.1.2.2).mono ?_
              rintro e w3 ⟨rfl, hb3⟩
              have B3 := B2.trans (hb3.mono B2.size)
              by_cases e3 : ya = yb
              · rw [decide_eq_true e3]
                go_wp2
                go_ret
                have hd : decide (EntD.Same ⟨va, fa, qa, ta, sa, ka, wa, ra, la, ya⟩ ⟨vb, fa, qb, ta, sa, ka, wb, rb, lb, yb⟩) = true := decide_eq_true ⟨rfl, rfl, rfl, rfl, e1, e2, e3⟩
                rw [hd]
                exact ⟨rfl, HX.out.2.2.trans (B3.mono HX.out.2.2.size)⟩
              · rw [decide_eq_false e3]
                go_wp2
                go_ret
                rw [decide_eq_false (show ¬ EntD.Same _ _ from fun h => e3 h.2.2.2.2.2.2)]
                exact ⟨rfl, HX.out.2.2.trans (B3.mono HX.out.2.2.size)⟩
            · rw [decide_eq_false e2]
              go_wp2
              go_ret
              rw [decide_eq_false (show ¬ EntD.Same _ _ from fun h => e2 h.2.2.2.2.2.1)]
              exact ⟨rfl, HX.out.2.2.trans (B2.mono HX.out.2.2.size)⟩
          · rw [decide_eq_false e1]
            go_wp2
            go_ret
            rw [decide_eq_false (show ¬ EntD.Same _ _ from fun h => e1 h.2.2.2.2.1)]
            exact ⟨rfl, HX.out.2.2.trans (hb1.mono HX.out.2.2.size)⟩
        · subst h1 h2 h3
          go_enter Tryz.func33, Tryz.ntmps33
          go_wp2_with fail
          rw [← HV.out]
          go_wp2
          go_ret
          rw [decide_eq_false (show ¬ EntD.Same _ _ from fun h => h4 h.2.2.2.1)]
          exact ⟨rfl, HX.out.2.2⟩
      · subst h1 h2
        go_enter Tryz.func33, Tryz.ntmps33
        go_wp2_with fail
        rw [← HV.out]
        go_wp2
        go_ret
        rw [decide_eq_false (show ¬ EntD.Same _ _ from fun h => h3 h.2.2.1)]
        exact ⟨rfl, HX.out.2.2⟩
    · subst h1
      go_enter Tryz.func33, Tryz.ntmps33
      go_wp2_with fail
      rw [← HV.out]
      go_wp2
      go_ret
      rw [decide_eq_false (show ¬ EntD.Same _ _ from fun h => h2 h.2.1)]
      exact ⟨rfl, HX.out.2.2⟩
  · go_enter Tryz.func33, Tryz.ntmps33
    go_wp2_with fail
    rw [← HV.out]
    go_wp2
    go_ret
    rw [decide_eq_false (show ¬ EntD.Same _ _ from fun h => h1 h.1)]
    exact ⟨rfl, HX.out.2.2⟩
end Go.Proofs.YtchebhafabhabaaGreatDoor

namespace Go.Proofs.YtchebhafabhabaaGreatDoor
open Go.RowKit Go.Shelf
set_option linter.unusedVariables false
attribute [local go_sem] Oper.semAt_some

def atD (vr vq vv : Value) (ts : Int) : EntD := ⟨vr, 0, vq, ts, 32, 1, vv, [114], [113], [118]⟩
def zD : EntD := ⟨.slice none 0 0, 0, .slice none 0 0, 0, 0, 0, .slice none 0 0, [], [], []⟩

set_option maxRecDepth 100000 in
set_option maxHeartbeats 1000000 in
theorem at_any (ts : Int) (w : World) : Calls Tryz.prog 40 #[.int .i64 ts] w fun e w' => ∃ vr vq vv, e = .returned (.agg (atD vr vq vv ts).cells) ∧ EntD.Ok w' (atD vr vq vv ts) ∧ Below w.heap.size w w' := by
  have k1 := Joins.run_convert_bytes_const_at (P := Tryz.prog) (w.alloc (.cells zD.cells 40)) 36 5 #[.int .u8 114] 1 1 (w.heap.size + 1) (by simp) und_bytes und_byte
  have k2 := Joins.run_convert_bytes_const_at (P := Tryz.prog) ((w.alloc (.cells zD.cells 40)).alloc (.cells #[.int .u8 114] 5 (1, 2))) 36 5 #[.int .u8 113] 1 1 (w.heap.size + 2) (by simp) und_bytes und_byte
  have k3 := Joins.run_convert_bytes_const_at (P := Tryz.prog) (((w.alloc (.cells zD.cells 40)).alloc (.cells #[.int .u8 114] 5 (1, 2))).alloc (.cells #[.int .u8 113] 5 (1, 2))) 36 5 #[.int .u8 118] 1 1 (w.heap.size + 3) (by simp) und_bytes und_byte
  simp only [zD, EntD.cells, List.size_toArray, List.length_cons, List.length_nil, Nat.zero_add] at k1 k2 k3
  obtain ⟨w4, hw4, bx, d2, d3, d4, bel⟩ := three w (atD (.slice (some ⟨w.heap.size + 1, 0, none⟩) 1 1) (.slice (some ⟨w.heap.size + 2, 0, none⟩) 1 1) (.slice (some ⟨w.heap.size + 3, 0, none⟩) 1 1) ts)
  have HF : Hid (_ ∧ _ ∧ _ ∧ _ ∧ _ ∧ _) := ⟨hw4, bx, d2, d3, d4, bel⟩
  clear bx d2 d3 d4 bel hw4
  simp only [atD, EntD.cells] at HF
  go_enter Tryz.func40, Tryz.ntmps40
  go_wp2
  clear k1 k2 k3
  obtain ⟨hw4, bx, d2, d3, d4, bel⟩ := HF.out
  clear HF
  rw [← hw4]
  have y0 := bx.vr
  have y1 := bx.fam
  have y2 := bx.vq
  have y3 := bx.ts
  have y4 := bx.seq
  have y5 := bx.kind
  have y6 := bx.vv
  simp only at y0 y1 y2 y3 y4 y5 y6
  refine bodyPost_ret (v := .agg (atD (.slice (some ⟨w.heap.size + 1, 0, none⟩) 1 1) (.slice (some ⟨w.heap.size + 2, 0, none⟩) 1 1) (.slice (some ⟨w.heap.size + 3, 0, none⟩) 1 1) ts).cells) (by simp [results, Tryz.results40, go_sem, y0, y1, y2, y3, y4, y5, y6, atD, EntD.cells]) rfl ?_
  exact ⟨_, _, _, rfl, ⟨rd_one d2 (by decide), rd_one d3 (by decide), rd_one d4 (by decide)⟩, bel⟩

end Go.Proofs.YtchebhafabhabaaGreatDoor

namespace Go.Proofs.YtchebhafabhabaaGreatDoor
open Go.RowKit Go.Shelf
set_option linter.unusedVariables false

set_option maxRecDepth 100000 in
set_option maxHeartbeats 2000000 in
theorem shared5_any {va vb : Value} {A B : List Nat} {w : World} (ha : Rd w va A) (hb : Rd w vb B) : Calls Tryz.prog 58 #[va, vb] w fun e w' => e = .returned (.int .i64 ((comL A B : Nat) : Int)) ∧ Below w.heap.size w w' := by
  obtain ⟨aA, nA, cA, rfl⟩ := rd_slice ha
  obtain ⟨aB, nB, cB, rfl⟩ := rd_slice hb
  have hA := rd_lens ha
  have hB := rd_lens hb
  have HA : Hid (Rd w (.slice aA nA cA) A) := ha
  have HB : Hid (Rd w (.slice aB nB cB) B) := hb
  have HL : Hid (nA = A.length ∧ nB = B.length) := ⟨hA.1, hB.1⟩
  have h48 := hA.2.2.2
  have h49 := hB.2.2.2
  clear ha hb hA hB
  go_enter Tryz.func58, Tryz.ntmps58
  go_wp2
  go_loopw [5] (fun i wr => ∃ k : Nat, k ≤ nA ∧ k ≤ nB ∧ i = .int .i64 ((k : Nat) : Int) ∧ Below w.heap.size w wr ∧ Hid (∀ j, j < k → A.getD j 0 = B.getD j 0)) (fun i _ => nA - (intOf i).toNat)
  case atStart => exact ⟨0, Nat.zero_le _, Nat.zero_le _, rfl, Below.refl _ _, fun j hj => by omega⟩
  case round =>
    obtain ⟨k, hkA, hkB, rfl, hbw, hS⟩ := hrel
    have HBW : Hid (Below w.heap.size w wr) := hbw
    have k0 : (0 : Int) ≤ (k : Int) := by omega
    by_cases h1 : k < nA
    · have h1i : (k : Int) < (nA : Int) := by omega
      obtain ⟨bA, oA, rfl⟩ : ∃ b off, aA = some ⟨b, off, none⟩ := by
        rcases rd_some HA.out with ⟨_, h, _⟩ | h
        · omega
        · exact h
      by_cases h2 : k < nB
      · have h2i : (k : Int) < (nB : Int) := by omega
        obtain ⟨bB, oB, rfl⟩ : ∃ b off, aB = some ⟨b, off, none⟩ := by
          rcases rd_some HB.out with ⟨_, h, _⟩ | h
          · omega
          · exact h
        obtain ⟨ca, la⟩ := rd_cell (HA.out.later hbw) k h1
        obtain ⟨cb, lb⟩ := rd_cell (HB.out.later hbw) k h2
        obtain ⟨xa, hxa⟩ : ∃ xa, xa = A.getD k 0 := ⟨_, rfl⟩
        obtain ⟨xb, hxb⟩ : ∃ xb, xb = B.getD k 0 := ⟨_, rfl⟩
        rw [← hxa] at ca la
        rw [← hxb] at cb lb
        have HX : Hid (xa = A.getD k 0 ∧ xb = B.getD k 0) := ⟨hxa, hxb⟩
        clear hxa hxb hbw
        by_cases he : xa = xb
        · subst he
          go_wp2
          go_quiet (fail)
          go_wp2
          go_roundw
          case rel => exact ⟨k + 1, by omega, by omega, by go_num, below_drewN HBW.out _, fun j hj => by
            by_cases hjk : j < k
            · exact hS.out j hjk
            · obtain rfl : j = k := by omega
              rw [← HX.out.1, ← HX.out.2]⟩
          case measure => simp [intOf]; omega
        · have he1 : ((xa : Int) == (xb : Int)) = false := by rw [beq_eq_false_iff_ne]; omega
          have he2 : ¬ ((xa : Int) = (xb : Int)) := by omega
          have hr : comL A B = k := comL_of (by rw [← HL.out.1]; exact hkA) (by rw [← HL.out.2]; exact hkB) hS.out (.inr (.inr (by rw [← HX.out.1, ← HX.out.2]; exact he)))
          have HR : Hid (comL A B = k) := hr
          clear hr
          go_wp2
          go_quiet (fail)
          go_wp2
          go_ret
          exact ⟨by rw [HR.out]; rfl, below_drewN HBW.out _⟩
      · have h2i : ¬ ((k : Int) < (nB : Int)) := by omega
        have hr : comL A B = k := comL_of (by rw [← HL.out.1]; exact hkA) (by rw [← HL.out.2]; exact hkB) hS.out (.inr (.inl (by rw [← HL.out.2]; omega)))
        have HR : Hid (comL A B = k) := hr
        clear hr hbw
        go_wp2
        go_quiet (fail)
        go_wp2
        go_ret
        exact ⟨by rw [HR.out]; rfl, below_drewN HBW.out _⟩
    · have h1i : ¬ ((k : Int) < (nA : Int)) := by omega
      have hr : comL A B = k := comL_of (by rw [← HL.out.1]; exact hkA) (by rw [← HL.out.2]; exact hkB) hS.out (.inl (by rw [← HL.out.1]; omega))
      have HR : Hid (comL A B = k) := hr
      clear hr hbw
      go_wp2
      go_quiet (fail)
      go_wp2
      go_ret
      exact ⟨by rw [HR.out]; rfl, below_drewN HBW.out _⟩
set_option maxRecDepth 100000 in
set_option maxHeartbeats 1000000 in
theorem four5_any (n : Nat) (hn : n < 4294967296) (w : World) :
    Calls Tryz.prog 86 #[.int .i64 (n : Int)] w fun e w' => ∃ a m c, e = .returned (.slice a m c) ∧ Own w' w.heap.size (.slice a m c) m (be4 n) ∧ Below w.heap.size w w' := by
  go_enter Tryz.func86, Tryz.ntmps86
  go_wp2
  go_ret
  refine ⟨_, 4, 4, rfl, own_new _ w.heap.size _ rfl (Nat.le_refl _) _ _ ?_ 4 rfl (by omega), (Below.refl _ _).alloc (Nat.le_refl _) _⟩
  simp [bv, be4]
  omega
set_option maxRecDepth 100000 in
theorem begin5_any (r : Int) (w : World) : Calls Tryz.prog 9 #[.int .i64 r] w fun e w' => e = .returned (.int .i64 (if 1 ≤ r ∧ r ≤ 16 then 0 else 1)) ∧ w' = w := by
  by_cases h : 1 ≤ r ∧ r ≤ 16
  · rw [if_pos h]
    have h1 : ¬ r < 1 := by omega
    have h2 : ¬ 16 < r := by omega
    go_enter Tryz.func9, Tryz.ntmps9
    go_wp2
    go_ret
    exact ⟨rfl, rfl⟩
  · rw [if_neg h]
    by_cases h1 : r < 1
    · go_enter Tryz.func9, Tryz.ntmps9
      go_wp2
      go_ret
      exact ⟨rfl, rfl⟩
    · have h2 : 16 < r := by omega
      go_enter Tryz.func9, Tryz.ntmps9
      go_wp2
      go_ret
      exact ⟨rfl, rfl⟩
structure L3 (W wr : World) (vb : Value) (E : List Nat) (vp : Value) (P : List Nat) (vl : Value) (L : List Nat) : Prop where
  b : Own wr W.heap.size vb E.length E
  p : Own wr W.heap.size vp P.length P
  l : Own wr W.heap.size vl L.length L
  bp : Apb vb vp
  bl : Apb vb vl
  pl : Apb vp vl
  bel : Below W.heap.size W wr
  by1 : Bys E
  by2 : Bys P
  by3 : Bys L
theorem L3.later {W wr wx : World} {vb vp vl : Value} {E P L : List Nat} (h : L3 W wr vb E vp P vl L) (hb : Below wr.heap.size wr wx) : L3 W wx vb E vp P vl L :=
  ⟨h.b.later hb, h.p.later hb, h.l.later hb, h.bp, h.bl, h.pl, h.bel.trans (hb.mono h.bel.size), h.by1, h.by2, h.by3⟩
theorem L3.key {W wr wx : World} {vb vp vl vk : Value} {E P L K : List Nat} {m : Nat} (h : L3 W wr vb E vp P vl L) (hb : Below wr.heap.size wr wx) (hk : Own wx wr.heap.size vk m K) (hK : Bys K) : L3 W wx vb E vp P vk K := by
  have hm := hk.1
  subst hm
  refine ⟨h.b.later hb, h.p.later hb, hk.mono h.bel.size, h.bp, ?_, ?_, h.bel.trans (hb.mono h.bel.size), h.by1, h.by2, hK⟩
  · intro k h1 h2
    have := (h.b.2.lt _ h1).2
    have := (hk.2.lt _ h2).1
    omega
  · intro k h1 h2
    have := (h.p.2.lt _ h1).2
    have := (hk.2.lt _ h2).1
    omega
theorem L3.growB {W wr wx : World} {vb vp vl vb' : Value} {E P L bs : List Nat} {n n' : Nat} (h : L3 W wr vb E vp P vl L) (g : Gr wr wx W.heap.size n n' vb vb' E bs) (hbs : Bys bs) : L3 W wx vb' (E ++ bs) vp P vl L := by
  have hn := g.new.1
  subst hn
  refine ⟨g.new, h.p.fb (Fb.of_grown (O := fun k => vb.ownBlock = some k) g.grown (fun i hi => hi)) (fun i hi k => h.bp i k hi), h.l.fb (Fb.of_grown (O := fun k => vb.ownBlock = some k) g.grown (fun i hi => hi)) (fun i hi k => h.bl i k hi), ?_, ?_, h.pl, h.bel.grown g.grown h.bel.size (fun k hk => (h.b.2.lt k hk).1), h.by1.app hbs, h.by2, h.by3⟩
  · intro k h1 h2
    rcases g.loc k h1 with h3 | h3
    · exact h.bp k h3 h2
    · have := (h.p.2.lt _ h2).2; omega
  · intro k h1 h2
    rcases g.loc k h1 with h3 | h3
    · exact h.bl k h3 h2
    · have := (h.l.2.lt _ h2).2; omega
theorem L3.growP {W wr wx : World} {vb vp vl vp' : Value} {E P L bs : List Nat} {n n' : Nat} (h : L3 W wr vb E vp P vl L) (g : Gr wr wx W.heap.size n n' vp vp' P bs) (hbs : Bys bs) : L3 W wx vb E vp' (P ++ bs) vl L := by
  have hn := g.new.1
  subst hn
  refine ⟨h.b.fb (Fb.of_grown (O := fun k => vp.ownBlock = some k) g.grown (fun i hi => hi)) (fun i hi k => h.bp i hi k), g.new, h.l.fb (Fb.of_grown (O := fun k => vp.ownBlock = some k) g.grown (fun i hi => hi)) (fun i hi k => h.pl i k hi), ?_, h.bl, ?_, h.bel.grown g.grown h.bel.size (fun k hk => (h.p.2.lt k hk).1), h.by1, h.by2.app hbs, h.by3⟩
  · intro k h1 h2
    rcases g.loc k h2 with h3 | h3
    · exact h.bp k h1 h3
    · have := (h.b.2.lt _ h1).2; omega
  · intro k h1 h2
    rcases g.loc k h1 with h3 | h3
    · exact h.pl k h3 h2
    · have := (h.l.2.lt _ h2).2; omega
theorem L3.start (W : World) : L3 W W (.slice none 0 0) [] (.slice none 0 0) [] (.slice none 0 0) [] :=
  ⟨ownNil _ _, ownNil _ _, ownNil _ _, (fun k hk => by cases hk), (fun k hk => by cases hk), (fun k hk => by cases hk), Below.refl _ _, (fun x hx => by cases hx), (fun x hx => by cases hx), (fun x hx => by cases hx)⟩
end Go.Proofs.YtchebhafabhabaaGreatDoor
