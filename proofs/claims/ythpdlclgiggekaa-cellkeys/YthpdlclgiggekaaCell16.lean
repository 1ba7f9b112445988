import Derived.Test.YthpdlclgiggekaaCell9
import Derived.Test.YthpdlclgiggekaaCell14
import Derived.Test.YthpdlclgiggekaaTripM
import Derived.Test.YthpdlclgiggekaaOneWayM
namespace Go.Proofs.Ythpdlclgiggekaa
open Go.RowKit
set_option linter.unusedVariables false

theorem one_trip (x : Nat) (pre rest : List Nat) : oneR (pre ++ ([x] ++ rest)) pre.length = (x, pre.length + 1, false) := by
  rw [oneR_in _ _ (by simp)]
  simp [List.getD]
theorem ord_at {bs pre rest l : List Nat} {k : Nat} (h : bs = pre ++ (ordL l ++ rest)) (hk : k = pre.length) : ordR bs k = (l, k + (ordL l).length, 0) := by
  subst h hk; exact ord_trip _ _ _
theorem fall_at' {bs pre rest : List Nat} {k n : Nat} (hn : n < 9223372036854775808) (h : bs = pre ++ (be8 (9223372036854775807 - n) ++ rest)) (hk : k = pre.length) : fallR bs k = (n, k + 8, 0) := by
  subst h hk; exact fall_trip n hn _ _
theorem one_at' {bs pre rest : List Nat} {k x : Nat} (h : bs = pre ++ ([x] ++ rest)) (hk : k = pre.length) : oneR bs k = (x, k + 1, false) := by
  subst h hk; exact one_trip _ _ _

/-- What a key reads as, not of a family's tombstone. -/
theorem reads_plain {D : EntD} (hc : checkS D = 0) (hk : D.kind ≠ 5) : ∃ p1 p2 p3 p4 p5 p6 p7, ordR (keyL D) 0 = (D.row, p1, 0) ∧ oneR (keyL D) p1 = (D.fam.toNat, p2, false) ∧ oneR (keyL D) p2 = (1, p3, false) ∧ ordR (keyL D) p3 = (D.qual, p4, 0) ∧ oneR (keyL D) p4 = (mark D.kind 4, p5, false) ∧ fallR (keyL D) p5 = (D.ts.toNat, p6, 0) ∧ fallR (keyL D) p6 = (D.seq.toNat, p7, 0) ∧ oneR (keyL D) p7 = (D.kind.toNat, (keyL D).length, false) := by
  obtain ⟨_, f, _, _, t, s, k, _⟩ := check_facts hc
  have e := keyL_parts D
  rw [if_neg hk] at e
  have m5 : mark D.kind 5 = 1 := by simp [mark, hk]
  rw [m5] at e
  generalize keyL D = bs at e
  have q1 := ord_at (bs := bs) (l := D.row) (k := 0) (pre := []) (rest := ([D.fam.toNat] ++ ([1] ++ (ordL D.qual ++ ([mark D.kind 4] ++ (be8 (9223372036854775807 - D.ts.toNat) ++ (be8 (9223372036854775807 - D.seq.toNat) ++ ([D.kind.toNat] ++ [])))))))) (by rw [e]; simp) (by first | (simp; done) | (simp; omega) | (simp [be8]; done) | (simp [be8]; omega))
  have q2 := one_at' (bs := bs) (x := D.fam.toNat) (k := 0 + (ordL D.row).length) (pre := ordL D.row) (rest := ([1] ++ (ordL D.qual ++ ([mark D.kind 4] ++ (be8 (9223372036854775807 - D.ts.toNat) ++ (be8 (9223372036854775807 - D.seq.toNat) ++ ([D.kind.toNat] ++ []))))))) (by rw [e]; simp) (by first | (simp; done) | (simp; omega) | (simp [be8]; done) | (simp [be8]; omega))
  have q3 := one_at' (bs := bs) (x := 1) (k := 0 + (ordL D.row).length + 1) (pre := ordL D.row ++ [D.fam.toNat]) (rest := (ordL D.qual ++ ([mark D.kind 4] ++ (be8 (9223372036854775807 - D.ts.toNat) ++ (be8 (9223372036854775807 - D.seq.toNat) ++ ([D.kind.toNat] ++ [])))))) (by rw [e]; simp) (by first | (simp; done) | (simp; omega) | (simp [be8]; done) | (simp [be8]; omega))
  have q4 := ord_at (bs := bs) (l := D.qual) (k := 0 + (ordL D.row).length + 1 + 1) (pre := ordL D.row ++ [D.fam.toNat] ++ [1]) (rest := ([mark D.kind 4] ++ (be8 (9223372036854775807 - D.ts.toNat) ++ (be8 (9223372036854775807 - D.seq.toNat) ++ ([D.kind.toNat] ++ []))))) (by rw [e]; simp) (by first | (simp; done) | (simp; omega) | (simp [be8]; done) | (simp [be8]; omega))
  have q5 := one_at' (bs := bs) (x := mark D.kind 4) (k := 0 + (ordL D.row).length + 1 + 1 + (ordL D.qual).length) (pre := ordL D.row ++ [D.fam.toNat] ++ [1] ++ ordL D.qual) (rest := (be8 (9223372036854775807 - D.ts.toNat) ++ (be8 (9223372036854775807 - D.seq.toNat) ++ ([D.kind.toNat] ++ [])))) (by rw [e]; simp) (by first | (simp; done) | (simp; omega) | (simp [be8]; done) | (simp [be8]; omega))
  have q6 := fall_at' (bs := bs) (n := D.ts.toNat) (k := 0 + (ordL D.row).length + 1 + 1 + (ordL D.qual).length + 1) (pre := ordL D.row ++ [D.fam.toNat] ++ [1] ++ ordL D.qual ++ [mark D.kind 4]) (rest := (be8 (9223372036854775807 - D.seq.toNat) ++ ([D.kind.toNat] ++ []))) (by omega) (by rw [e]; simp) (by first | (simp; done) | (simp; omega) | (simp [be8]; done) | (simp [be8]; omega))
  have q7 := fall_at' (bs := bs) (n := D.seq.toNat) (k := 0 + (ordL D.row).length + 1 + 1 + (ordL D.qual).length + 1 + 8) (pre := ordL D.row ++ [D.fam.toNat] ++ [1] ++ ordL D.qual ++ [mark D.kind 4] ++ be8 (9223372036854775807 - D.ts.toNat)) (rest := ([D.kind.toNat] ++ [])) (by omega) (by rw [e]; simp) (by first | (simp; done) | (simp; omega) | (simp [be8]; done) | (simp [be8]; omega))
  have q8 := one_at' (bs := bs) (x := D.kind.toNat) (k := 0 + (ordL D.row).length + 1 + 1 + (ordL D.qual).length + 1 + 8 + 8) (pre := ordL D.row ++ [D.fam.toNat] ++ [1] ++ ordL D.qual ++ [mark D.kind 4] ++ be8 (9223372036854775807 - D.ts.toNat) ++ be8 (9223372036854775807 - D.seq.toNat)) (rest := []) (by rw [e]; simp) (by first | (simp; done) | (simp; omega) | (simp [be8]; done) | (simp [be8]; omega))
  have l8 : 0 + (ordL D.row).length + 1 + 1 + (ordL D.qual).length + 1 + 8 + 8 + 1 = bs.length := by rw [e]; first | (simp [be8]; done) | (simp [be8]; omega)
  rw [l8] at q8
  exact ⟨_, _, _, _, _, _, _, q1, q2, q3, q4, q5, q6, q7, q8⟩
/-- Of a family's tombstone. -/
theorem reads_fam {D : EntD} (hc : checkS D = 0) (hk : D.kind = 5) : ∃ p1 p2 p3 p6 p7, ordR (keyL D) 0 = (D.row, p1, 0) ∧ oneR (keyL D) p1 = (D.fam.toNat, p2, false) ∧ oneR (keyL D) p2 = (0, p3, false) ∧ fallR (keyL D) p3 = (D.ts.toNat, p6, 0) ∧ fallR (keyL D) p6 = (D.seq.toNat, p7, 0) ∧ oneR (keyL D) p7 = (D.kind.toNat, (keyL D).length, false) := by
  obtain ⟨_, f, _, _, t, s, k, _⟩ := check_facts hc
  have e := keyL_parts D
  rw [if_pos hk] at e
  have m5 : mark D.kind 5 = 0 := by simp [mark, hk]
  rw [m5] at e
  generalize keyL D = bs at e
  have q1 := ord_at (bs := bs) (l := D.row) (k := 0) (pre := []) (rest := ([D.fam.toNat] ++ ([0] ++ (be8 (9223372036854775807 - D.ts.toNat) ++ (be8 (9223372036854775807 - D.seq.toNat) ++ ([D.kind.toNat] ++ [])))))) (by rw [e]; simp) (by first | (simp; done) | (simp; omega) | (simp [be8]; done) | (simp [be8]; omega))
  have q2 := one_at' (bs := bs) (x := D.fam.toNat) (k := 0 + (ordL D.row).length) (pre := ordL D.row) (rest := ([0] ++ (be8 (9223372036854775807 - D.ts.toNat) ++ (be8 (9223372036854775807 - D.seq.toNat) ++ ([D.kind.toNat] ++ []))))) (by rw [e]; simp) (by first | (simp; done) | (simp; omega) | (simp [be8]; done) | (simp [be8]; omega))
  have q3 := one_at' (bs := bs) (x := 0) (k := 0 + (ordL D.row).length + 1) (pre := ordL D.row ++ [D.fam.toNat]) (rest := (be8 (9223372036854775807 - D.ts.toNat) ++ (be8 (9223372036854775807 - D.seq.toNat) ++ ([D.kind.toNat] ++ [])))) (by rw [e]; simp) (by first | (simp; done) | (simp; omega) | (simp [be8]; done) | (simp [be8]; omega))
  have q6 := fall_at' (bs := bs) (n := D.ts.toNat) (k := 0 + (ordL D.row).length + 1 + 1) (pre := ordL D.row ++ [D.fam.toNat] ++ [0]) (rest := (be8 (9223372036854775807 - D.seq.toNat) ++ ([D.kind.toNat] ++ []))) (by omega) (by rw [e]; simp) (by first | (simp; done) | (simp; omega) | (simp [be8]; done) | (simp [be8]; omega))
  have q7 := fall_at' (bs := bs) (n := D.seq.toNat) (k := 0 + (ordL D.row).length + 1 + 1 + 8) (pre := ordL D.row ++ [D.fam.toNat] ++ [0] ++ be8 (9223372036854775807 - D.ts.toNat)) (rest := ([D.kind.toNat] ++ [])) (by omega) (by rw [e]; simp) (by first | (simp; done) | (simp; omega) | (simp [be8]; done) | (simp [be8]; omega))
  have q8 := one_at' (bs := bs) (x := D.kind.toNat) (k := 0 + (ordL D.row).length + 1 + 1 + 8 + 8) (pre := ordL D.row ++ [D.fam.toNat] ++ [0] ++ be8 (9223372036854775807 - D.ts.toNat) ++ be8 (9223372036854775807 - D.seq.toNat)) (rest := []) (by rw [e]; simp) (by first | (simp; done) | (simp; omega) | (simp [be8]; done) | (simp [be8]; omega))
  have l8 : 0 + (ordL D.row).length + 1 + 1 + 8 + 8 + 1 = bs.length := by rw [e]; first | (simp [be8]; done) | (simp [be8]; omega)
  rw [l8] at q8
  exact ⟨_, _, _, _, _, q1, q2, q3, q6, q7, q8⟩

theorem seg_join {bs : List Nat} {i j k : Nat} (h1 : i ≤ j) (h2 : j ≤ k) (h3 : k ≤ bs.length) : (bs.take j).drop i ++ (bs.take k).drop j = (bs.take k).drop i := by
  apply List.ext_getElem?
  intro n
  by_cases hn : n < j - i
  · rw [List.getElem?_append_left (by simp; omega)]
    rw [List.getElem?_drop, List.getElem?_drop, List.getElem?_take_of_lt (by omega), List.getElem?_take_of_lt (by omega)]
  · rw [List.getElem?_append_right (by simp; omega), List.getElem?_drop, List.getElem?_drop]
    congr 1
    simp
    omega
theorem one_back {bs : List Nat} {k x P : Nat} (hk : k ≤ bs.length) (h : oneR bs k = (x, P, false)) : [x] = (bs.take P).drop k ∧ k ≤ P ∧ P ≤ bs.length := by
  unfold oneR at h
  split at h
  · simp at h
  · simp only [Prod.mk.injEq] at h
    obtain ⟨rfl, rfl, _⟩ := h
    have hlt : k < bs.length := by omega
    refine ⟨?_, by omega, by omega⟩
    rw [List.drop_take, show k + 1 - k = 1 by omega, drop_cons bs k hlt]
    rfl
theorem fall_back {bs : List Nat} {k V P : Nat} (hb : Bys bs) (h : fallR bs k = (V, P, 0)) : be8 (9223372036854775807 - V) = (bs.take P).drop k ∧ k ≤ P ∧ P ≤ bs.length := by
  unfold fallR at h
  split at h
  · rename_i h1
    simp only [Prod.mk.injEq] at h
    exact absurd h.2.2 h1
  · rename_i h1
    simp only [Prod.mk.injEq] at h
    obtain ⟨h2, h3, _⟩ := h
    have e : riseR bs k = ((riseR bs k).1, P, 0) := by
      rw [← h3]
      ext
      · rfl
      · rfl
      · simpa using h1
    obtain ⟨r1, r2, r3, r4⟩ := rise_back hb e
    refine ⟨?_, by omega, r3⟩
    rw [← r1]
    congr 1
    omega

/-- What was read, written again. -/
theorem back_plain {bs row qual : List Nat} {p1 p2 p3 p4 p5 p6 p7 p8 fam fm cm ts sq kd : Nat} (hb : Bys bs)
    (q1 : ordR bs 0 = (row, p1, 0)) (q2 : oneR bs p1 = (fam, p2, false)) (q3 : oneR bs p2 = (fm, p3, false)) (hfm : fm ≠ 0) (q4 : ordR bs p3 = (qual, p4, 0)) (q5 : oneR bs p4 = (cm, p5, false))
    (q6 : fallR bs p5 = (ts, p6, 0)) (q7 : fallR bs p6 = (sq, p7, 0)) (q8 : oneR bs p7 = (kd, p8, false)) (m5 : fm = mark kd 5) (m4 : cm = mark kd 4) (hp : p8 = bs.length) (vr vq vv : Value) (val : List Nat) :
    keyL ⟨vr, (fam : Int), vq, (ts : Int), (sq : Int), (kd : Int), vv, row, qual, val⟩ = bs := by
  obtain ⟨r1, s1, t1⟩ := ord_back (Nat.zero_le _) q1
  obtain ⟨r2, s2, t2⟩ := one_back t1 q2
  obtain ⟨r3, s3, t3⟩ := one_back t2 q3
  obtain ⟨r4, s4, t4⟩ := ord_back t3 q4
  obtain ⟨r5, s5, t5⟩ := one_back t4 q5
  obtain ⟨r6, s6, t6⟩ := fall_back hb q6
  obtain ⟨r7, s7, t7⟩ := fall_back hb q7
  obtain ⟨r8, s8, t8⟩ := one_back t7 q8
  have hk : ¬ ((kd : Int) = 5) := by
    intro h
    apply hfm
    rw [m5]
    simp [mark, h]
  rw [keyL_parts]
  simp only [Int.toNat_natCast]
  rw [if_neg hk, ← m5, ← m4, r1, r2, r3, r4, r5, r6, r7, r8, List.append_nil, List.append_assoc]
  rw [seg_join s7 s8 t8, seg_join s6 (by omega) t8, seg_join s5 (by omega) t8, seg_join (by omega) (by omega) t8, seg_join s3 (by omega) t8, seg_join s2 (by omega) t8, seg_join (by omega) (by omega) t8]
  rw [hp]
  simp
theorem back_fam {bs row : List Nat} {p1 p2 p3 p6 p7 p8 fam ts sq kd : Nat} (hb : Bys bs)
    (q1 : ordR bs 0 = (row, p1, 0)) (q2 : oneR bs p1 = (fam, p2, false)) (q3 : oneR bs p2 = (0, p3, false))
    (q6 : fallR bs p3 = (ts, p6, 0)) (q7 : fallR bs p6 = (sq, p7, 0)) (q8 : oneR bs p7 = (kd, p8, false)) (m5 : 0 = mark kd 5) (hp : p8 = bs.length) (vr vq vv : Value) (val : List Nat) :
    keyL ⟨vr, (fam : Int), vq, (ts : Int), (sq : Int), (kd : Int), vv, row, [], val⟩ = bs := by
  obtain ⟨r1, s1, t1⟩ := ord_back (Nat.zero_le _) q1
  obtain ⟨r2, s2, t2⟩ := one_back t1 q2
  obtain ⟨r3, s3, t3⟩ := one_back t2 q3
  obtain ⟨r6, s6, t6⟩ := fall_back hb q6
  obtain ⟨r7, s7, t7⟩ := fall_back hb q7
  obtain ⟨r8, s8, t8⟩ := one_back t7 q8
  have hk : (kd : Int) = 5 := by
    by_cases h : (kd : Int) = 5
    · exact h
    · simp [mark, h] at m5
  rw [keyL_parts]
  simp only [Int.toNat_natCast]
  rw [if_pos hk, ← m5, r1, r2, r3, r6, r7, r8, List.append_nil, List.nil_append]
  rw [seg_join s7 s8 t8, seg_join s6 (by omega) t8, seg_join s3 (by omega) t8, seg_join s2 (by omega) t8, seg_join (by omega) (by omega) t8]
  rw [hp]
  simp

end Go.Proofs.Ythpdlclgiggekaa
