import Derived.Test.YthpdlclgiggekaaCell27
import Derived.Lib.Hide
namespace Go.Proofs.Ythpdlclgiggekaa
open Go.RowKit
set_option linter.unusedVariables false

set_option maxRecDepth 100000 in
set_option maxHeartbeats 4000000 in
theorem refCheck_any {e : EntD} {w : World} (hok : EntD.Ok w e) :
    Calls Try.prog 40 #[.agg e.cells] w fun r w' => r = .returned (.int .i64 ((checkS e : Nat) : Int)) ∧ Below w.heap.size w w' := by
  obtain ⟨vr, fam, vq, ts, seq, kind, vv, row, qual, val⟩ := e
  obtain ⟨h1, h2, h3⟩ := hok
  simp only [EntD.cells] at *
  obtain ⟨ar, nr, cr, rfl⟩ := rd_slice h1
  obtain ⟨aq, nq, cq, rfl⟩ := rd_slice h2
  obtain ⟨av, nv, cv, rfl⟩ := rd_slice h3
  obtain ⟨er, _, _, lr⟩ := rd_lens h1
  obtain ⟨eq, _, _, lq⟩ := rd_lens h2
  obtain ⟨ev, _, _, lv⟩ := rd_lens h3
  have A1 := (Below.refl w.heap.size w).alloc (Nat.le_refl _) (.cells #[.slice ar nr cr, .int .i64 fam, .slice aq nq cq, .int .i64 ts, .int .i64 seq, .int .i64 kind, .slice av nv cv] 35)
  obtain ⟨S, hS⟩ : ∃ S, S = checkS ⟨.slice ar nr cr, fam, .slice aq nq cq, ts, seq, kind, .slice av nv cv, row, qual, val⟩ := ⟨_, rfl⟩
  rw [← hS]
  unfold checkS at hS
  simp only at hS
  rw [← er, ← eq, ← ev] at hS
  have HS : Hid (S = _) := hS
  clear hS er eq ev h1 h2 h3
  go_enter Try.func40, Try.ntmps40
  go_wp2_with fail
  by_cases c1 : nr = 0 ∨ 256 < nr
  · refine (refOut_out _ _ _ _ (by omega)).mono ?_
    rintro e1 w1 ⟨rfl, rfl⟩
    have HE : Hid (S = 20) := by unfold Hid; rw [HS.out]; repeat (first | rw [if_pos (by omega)] | rw [if_neg (by omega)])
    clear HS
    go_wp2
    go_ret
    exact ⟨by rw [HE.out]; rfl, A1⟩
  refine (refOut_in _ _ _ _ (by omega) (by omega)).mono ?_
  rintro e1 w1 ⟨rfl, rfl⟩
  go_wp2_with fail
  by_cases c2 : fam < 0 ∨ 8 ≤ fam
  · refine (refOut_out _ _ _ _ (by omega)).mono ?_
    rintro e1 w1 ⟨rfl, rfl⟩
    have HE : Hid (S = 21) := by unfold Hid; rw [HS.out]; repeat (first | rw [if_pos (by omega)] | rw [if_neg (by omega)])
    clear HS
    go_wp2
    go_ret
    exact ⟨by rw [HE.out]; rfl, A1⟩
  refine (refOut_in _ _ _ _ (by omega) (by omega)).mono ?_
  rintro e1 w1 ⟨rfl, rfl⟩
  by_cases c3 : 256 < nq
  · have q1 : (256 : Int) < (nq : Int) := by omega
    have HE : Hid (S = 22) := by unfold Hid; rw [HS.out]; repeat (first | rw [if_pos (by omega)] | rw [if_neg (by omega)])
    clear HS
    go_wp2
    go_ret
    exact ⟨by rw [HE.out]; rfl, A1⟩
  have q1 : (nq : Int) ≤ 256 := by omega
  by_cases k5 : kind = 5
  · subst k5
    by_cases q0 : 0 < nq
    · have q2 : (0 : Int) < (nq : Int) := by omega
      have HE : Hid (S = 22) := by unfold Hid; rw [HS.out]; repeat (first | rw [if_pos (by omega)] | rw [if_neg (by omega)])
      clear HS
      go_wp2
      go_ret
      exact ⟨by rw [HE.out]; rfl, A1⟩
    have q2 : (nq : Int) ≤ 0 := by omega
    go_wp2_with fail
    by_cases c4 : ts < 1 ∨ 1099511627776 < ts
    · refine (refOut_out _ _ _ _ (by omega)).mono ?_
      rintro e1 w1 ⟨rfl, rfl⟩
      have HE : Hid (S = 23) := by unfold Hid; rw [HS.out]; repeat (first | rw [if_pos (by omega)] | rw [if_neg (by omega)])
      clear HS
      go_wp2
      go_ret
      exact ⟨by rw [HE.out]; rfl, A1⟩
    refine (refOut_in _ _ _ _ (by omega) (by omega)).mono ?_
    rintro e1 w1 ⟨rfl, rfl⟩
    go_wp2_with fail
    by_cases c5 : seq < 0 ∨ 17592186044431 < seq
    · refine (refOut_out _ _ _ _ (by omega)).mono ?_
      rintro e1 w1 ⟨rfl, rfl⟩
      have HE : Hid (S = 24) := by unfold Hid; rw [HS.out]; repeat (first | rw [if_pos (by omega)] | rw [if_neg (by omega)])
      clear HS
      go_wp2
      go_ret
      exact ⟨by rw [HE.out]; rfl, A1⟩
    refine (refOut_in _ _ _ _ (by omega) (by omega)).mono ?_
    rintro e1 w1 ⟨rfl, rfl⟩
    go_wp2_with fail
    refine (refOut_in _ _ _ _ (by decide) (by decide)).mono ?_
    rintro e1 w1 ⟨rfl, rfl⟩
    by_cases c7 : 4096 < nv
    · have v1 : (4096 : Int) < (nv : Int) := by omega
      have HE : Hid (S = 26) := by unfold Hid; rw [HS.out]; repeat (first | rw [if_pos (by omega)] | rw [if_neg (by omega)])
      clear HS
      go_wp2
      go_ret
      exact ⟨by rw [HE.out]; rfl, A1⟩
    have v1 : (nv : Int) ≤ 4096 := by omega
    by_cases c9 : 0 < nv
    · have v0 : (0 : Int) < (nv : Int) := by omega
      have HE : Hid (S = 26) := by unfold Hid; rw [HS.out]; repeat (first | rw [if_pos (by omega)] | rw [if_neg (by omega)])
      clear HS
      go_wp2
      go_ret
      exact ⟨by rw [HE.out]; rfl, A1⟩
    have v0 : (nv : Int) ≤ 0 := by omega
    have HE : Hid (S = 0) := by unfold Hid; rw [HS.out]; repeat (first | rw [if_pos (by omega)] | rw [if_neg (by omega)])
    clear HS
    go_wp2
    go_ret
    exact ⟨by rw [HE.out]; rfl, A1⟩
  have k51 : (kind == 5) = false := by simp; omega
  go_wp2_with fail
  by_cases c4 : ts < 1 ∨ 1099511627776 < ts
  · refine (refOut_out _ _ _ _ (by omega)).mono ?_
    rintro e1 w1 ⟨rfl, rfl⟩
    have HE : Hid (S = 23) := by unfold Hid; rw [HS.out]; repeat (first | rw [if_pos (by omega)] | rw [if_neg (by omega)])
    clear HS
    go_wp2
    go_ret
    exact ⟨by rw [HE.out]; rfl, A1⟩
  refine (refOut_in _ _ _ _ (by omega) (by omega)).mono ?_
  rintro e1 w1 ⟨rfl, rfl⟩
  go_wp2_with fail
  by_cases c5 : seq < 0 ∨ 17592186044431 < seq
  · refine (refOut_out _ _ _ _ (by omega)).mono ?_
    rintro e1 w1 ⟨rfl, rfl⟩
    have HE : Hid (S = 24) := by unfold Hid; rw [HS.out]; repeat (first | rw [if_pos (by omega)] | rw [if_neg (by omega)])
    clear HS
    go_wp2
    go_ret
    exact ⟨by rw [HE.out]; rfl, A1⟩
  refine (refOut_in _ _ _ _ (by omega) (by omega)).mono ?_
  rintro e1 w1 ⟨rfl, rfl⟩
  go_wp2_with fail
  by_cases c6 : kind < 1 ∨ 5 < kind
  · refine (refOut_out _ _ _ _ (by omega)).mono ?_
    rintro e1 w1 ⟨rfl, rfl⟩
    have HE : Hid (S = 25) := by unfold Hid; rw [HS.out]; repeat (first | rw [if_pos (by omega)] | rw [if_neg (by omega)])
    clear HS
    go_wp2
    go_ret
    exact ⟨by rw [HE.out]; rfl, A1⟩
  refine (refOut_in _ _ _ _ (by omega) (by omega)).mono ?_
  rintro e1 w1 ⟨rfl, rfl⟩
  by_cases c7 : 4096 < nv
  · have v1 : (4096 : Int) < (nv : Int) := by omega
    have HE : Hid (S = 26) := by unfold Hid; rw [HS.out]; repeat (first | rw [if_pos (by omega)] | rw [if_neg (by omega)])
    clear HS
    go_wp2
    go_ret
    exact ⟨by rw [HE.out]; rfl, A1⟩
  have v1 : (nv : Int) ≤ 4096 := by omega
  by_cases c8 : kind = 1
  · subst c8
    have HE : Hid (S = 0) := by unfold Hid; rw [HS.out]; repeat (first | rw [if_pos (by omega)] | rw [if_neg (by omega)])
    clear HS
    go_wp2
    go_ret
    exact ⟨by rw [HE.out]; rfl, A1⟩
  have k1 : (kind != 1) = true := by simp; omega
  have k2 : (kind == 1) = false := by simp; omega
  by_cases c9 : 0 < nv
  · have v0 : (0 : Int) < (nv : Int) := by omega
    have HE : Hid (S = 26) := by unfold Hid; rw [HS.out]; repeat (first | rw [if_pos (by omega)] | rw [if_neg (by omega)])
    clear HS
    go_wp2
    go_ret
    exact ⟨by rw [HE.out]; rfl, A1⟩
  have v0 : (nv : Int) ≤ 0 := by omega
  have HE : Hid (S = 0) := by unfold Hid; rw [HS.out]; repeat (first | rw [if_pos (by omega)] | rw [if_neg (by omega)])
  clear HS
  go_wp2
  go_ret
  exact ⟨by rw [HE.out]; rfl, A1⟩

end Go.Proofs.Ythpdlclgiggekaa
