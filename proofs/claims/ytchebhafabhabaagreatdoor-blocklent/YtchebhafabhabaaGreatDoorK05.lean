import Derived.Test.YtchebhafabhabaaGreatDoorK04
namespace Go.Proofs.YtchebhafabhabaaGreatDoor
open Go.RowKit
set_option linter.unusedVariables false

theorem rord_back : ∀ (m : Nat) (l acc : List Nat) (i : Nat) (L : List Nat) (c : Nat), l.length ≤ m → rord l acc i = (L, c, 0) → ∃ t, L = acc ++ t ∧ ordL t = l.take (c - i) ∧ i < c ∧ c ≤ i + l.length := by
 intro m
 induction m with
 | zero =>
  intro l acc i L c hl h
  have : l = [] := List.eq_nil_of_length_eq_zero (by omega)
  subst this
  simp [rord] at h
 | succ m ih =>
  intro l acc i L c hl h
  match l, hl, h with
  | [], _, h => simp [rord] at h
  | [x], _, h => simp [rord] at h
  | x :: d :: r, hl, h =>
   unfold rord at h
   split at h
   ·rename_i hx
    obtain ⟨t, h1, h2, h3, h4⟩ := ih (d :: r) _ _ L c (by simp at hl ⊢; omega) h
    refine ⟨x :: t, by rw [h1]; simp, ?_, by omega, by simp at h4 ⊢; omega⟩
    have e : ordL (x :: t) = x :: ordL t := by simp [ordL, escL, hx]
    rw [e, h2, show c - i = (c - (i + 1)) + 1 by omega]
    rfl
   ·rename_i hx
    have hx0 : x = 0 := by omega
    subst hx0
    split at h
    ·rename_i hd
     subst hd
     simp only [Prod.mk.injEq, and_true] at h
     obtain ⟨rfl, rfl⟩ := h
     refine ⟨[], by simp, ?_, by omega, by simp⟩
     rw [show i + 2 - i = 2 by omega]
     simp [ordL, escL]
    ·split at h
     ·rename_i hd
      subst hd
      obtain ⟨t, h1, h2, h3, h4⟩ := ih r _ _ L c (by simp at hl ⊢; omega) h
      refine ⟨0 :: t, by rw [h1]; simp, ?_, by omega, by simp; omega⟩
      have e : ordL (0 :: t) = 0 :: 255 :: ordL t := by simp [ordL, escL]
      rw [e, h2, show c - i = (c - (i + 2)) + 1 + 1 by omega]
      rfl
     ·simp at h
theorem ord_back {bs L : List Nat} {k P : Nat} (hk : k ≤ bs.length) (h : ordR bs k = (L, P, 0)) : ordL L = (bs.take P).drop k ∧ k < P ∧ P ≤ bs.length := by
 unfold ordR at h
 simp only [Prod.mk.injEq] at h
 obtain ⟨h1, h2, h3⟩ := h
 rw [if_pos h3] at h2
 obtain ⟨t, e1, e2, e3, e4⟩ := rord_back _ (bs.drop k) [] 0 L (rord (bs.drop k) [] 0).2.1 (Nat.le_refl _) (Prod.ext h1 (Prod.ext rfl h3))
 rw [List.nil_append] at e1
 subst e1
 rw [List.length_drop] at e4
 refine ⟨?_, by omega, by omega⟩
 rw [e2, ← h2, List.drop_take]
 simp
theorem be8_num8 (a b c d e f g h : Nat) (ha : a < 256) (hb : b < 256) (hc : c < 256) (hd : d < 256) (he : e < 256) (hf : f < 256) (hg : g < 256) (hh : h < 256) : be8 (num8 [a, b, c, d, e, f, g, h]) = [a, b, c, d, e, f, g, h] := by
 simp [be8, num8]
 omega
theorem rise_back {bs : List Nat} {k V P : Nat} (hb : Bys bs) (h : riseR bs k = (V, P, 0)) : be8 V = (bs.take P).drop k ∧ k < P ∧ P ≤ bs.length ∧ V < 9223372036854775808 := by
 unfold riseR at h
 split at h
 ·simp at h
 ·split at h
  ·simp at h
  ·rename_i h1 h2
   simp only [Prod.mk.injEq, and_true] at h
   obtain ⟨rfl, rfl⟩ := h
   have hl : ((bs.drop k).take 8).length = 8 := by rw [List.length_take, List.length_drop]; omega
   have hby : Bys ((bs.drop k).take 8) := fun x hx => hb x (List.mem_of_mem_drop (List.mem_of_mem_take hx))
   have e : (bs.take (k + 8)).drop k = (bs.drop k).take 8 := by rw [List.drop_take]; congr 1; omega
   refine ⟨?_, by omega, by omega, by omega⟩
   rw [e]
   generalize (bs.drop k).take 8 = L at *
   match L, hl with
   | [a, b, c, d, e, f, g, h], _ => exact be8_num8 a b c d e f g h (hby _ (by simp)) (hby _ (by simp)) (hby _ (by simp)) (hby _ (by simp)) (hby _ (by simp)) (hby _ (by simp)) (hby _ (by simp)) (hby _ (by simp))
end Go.Proofs.YtchebhafabhabaaGreatDoor

namespace Go.Proofs.YtchebhafabhabaaGreatDoor
open Go.RowKit
set_option linter.unusedVariables false

theorem one_trip (x : Nat) (pre rest : List Nat) : oneR (pre ++ ([x] ++ rest)) pre.length = (x, pre.length + 1, false) := by
 rw [oneR_in _ _ (by simp)]
 simp [List.getD]
theorem ord_at {bs pre rest l : List Nat} {k : Nat} (h : bs = pre ++ (ordL l ++ rest)) (hk : k = pre.length) : ordR bs k = (l, k + (ordL l).length, 0) := by
 subst h hk; exact ord_trip _ _ _
theorem fall_at' {bs pre rest : List Nat} {k n : Nat} (hn : n < 9223372036854775808) (h : bs = pre ++ (be8 (9223372036854775807 - n) ++ rest)) (hk : k = pre.length) : fallR bs k = (n, k + 8, 0) := by
 subst h hk; exact fall_trip n hn _ _
theorem one_at' {bs pre rest : List Nat} {k x : Nat} (h : bs = pre ++ ([x] ++ rest)) (hk : k = pre.length) : oneR bs k = (x, k + 1, false) := by
 subst h hk; exact one_trip _ _ _

theorem reads_plain {D : EntD} (hc : checkS D = 0) (hk : D.kind ≠ 5) : ∃ p1 p2 p3 p4 p5 p6 p7, ordR (keyL D) 0 = (D.row, p1, 0) ∧ oneR (keyL D) p1 = (D.fam.toNat, p2, false) ∧ oneR (keyL D) p2 = (1, p3, false) ∧ ordR (keyL D) p3 = (D.qual, p4, 0) ∧ oneR (keyL D) p4 = (mark D.kind 4, p5, false) ∧ fallR (keyL D) p5 = (D.ts.toNat, p6, 0) ∧ fallR (keyL D) p6 = (D.seq.toNat, p7, 0) ∧ oneR (keyL D) p7 = (D.kind.toNat, (keyL D).length, false) := by
 obtain ⟨_, f, _, _, t, s, k, _⟩ := check_facts hc
 have e := keyL_parts D
 rw [if_neg hk] at e
 have m5 : mark D.kind 5 = 1 := by simp [mark, hk]
 rw [m5] at e
 generalize keyL D = bs at e
 have q1 := ord_at (bs := bs) (l := D.row) (k := 0) (pre := []) (rest := ([D.fam.toNat] ++ ([1] ++ (ordL D.qual ++ ([mark D.kind 4] ++ (be8 (9223372036854775807 - D.ts.toNat) ++ (be8 (9223372036854775807 - D.seq.toNat) ++ ([D.kind.toNat] ++ [])))))))) (by rw [e]; simp) (by first | (simp; done) | (simp; omega) | (simp [be8]; done) | (simp [be8]; omega))
 have q2 := one_at' (bs := bs) (x := D.fam.toNat) (k := 0 + (ordL D.row).length) (pre := ordL D.row) (rest := ([1] ++ (ordL D.qual ++ ([mark D.kind 4] ++ (be8 (9223372036854775807 - D.ts.toNat) ++ (be8 (9223372036854775807 - D.seq.toNat) ++ ([D.kind.toNat] ++ []))))))) (by rw [e]; simp) (by first | (simp; done) | (simp; omega) | (simp [be8]; done) | (simp [be8]; omega))
 have q3 := one_at' (bs := bs) (x := 1) (k := 0 + (ordL D.row).length + 1) (pre := ordL D.row ++ [D.fam.toNat]) (rest := (ordL D.qual ++ ([mark D.kind 4] ++ (be8 (9223372036854775807 - D.ts.toNat) ++ (be8 (9223372036854775807 - D.seq.toNat) ++ ([D.kind.toNat] ++ [])))))) (by rw [e]; simp) (by first | (simp; done) | (simp; omega) | (simp [be8]; done) | (simp [be8]; omega))
 have q4 := ord_at (bs := bs) (l := D.qual) (k := 0 + (ordL D.row).length + 1 + 1) (pre := ordL D.row ++ [D.fam.toNat] ++ [1]) (rest := ([mark D.kind 4] ++ (be8 (9223372036854775807 - D.ts.toNat) ++ (be8 (9223372036854775807 - D.seq.toNat) ++ ([D.kind.toNat] ++ []))))) (by rw [e]; simp) (by first | (simp; done) | (simp; omega) | (simp [be8]; done) | (simp [be8]; omega))
 have q5 := one_at' (bs := bs) (x := mark D.kind 4) (k := 0 + (ordL D.row).length + 1 + 1 + (ordL D.qual).length) (pre := ordL D.row ++ [D.fam.toNat] ++ [1] ++ ordL D.qual) (rest := (be8 (9223372036854775807 - D.ts.toNat) ++ (be8 (9223372036854775807 - D.seq.toNat) ++ ([D.kind.toNat] ++ [])))) (by rw [e]; simp) (by first | (simp; done) | (simp; omega) | (simp [be8]; done) | (simp [be8]; omega))
 have q6 := fall_at' (bs := bs) (n := D.ts.toNat) (k := 0 + (ordL D.row).length + 1 + 1 + (ordL D.qual).length + 1) (pre := ordL D.row ++ [D.fam.toNat] ++ [1] ++ ordL D.qual ++ [mark D.kind 4]) (rest := (be8 (9223372036854775807 - D.seq.toNat) ++ ([D.kind.toNat] ++ []))) (by omega) (by rw [e]; simp) (by first | (simp; done) | (simp; omega) | (simp [be8]; done) | (simp [be8]; omega))
 have q7 := fall_at' (bs := bs) (n := D.seq.toNat) (k := 0 + (ordL D.row).length + 1 + 1 + (ordL D.qual).length + 1 + 8) (pre := ordL D.row ++ [D.fam.toNat] ++ [1] ++ ordL D.qual ++ [mark D.kind 4] ++ be8 (9223372036854775807 - D.ts.toNat)) (rest := ([D.kind.toNat] ++ [])) (by omega) (by rw [e]; simp) (by first | (simp; done) | (simp; omega) | (simp [be8]; done) | (simp [be8]; omega))
 have q8 := one_at' (bs := bs) (x := D.kind.toNat) (k := 0 + (ordL D.row).length + 1 + 1 + (ordL D.qual).length + 1 + 8 + 8) (pre := ordL D.row ++ [D.fam.toNat] ++ [1] ++ ordL D.qual ++ [mark D.kind 4] ++ be8 (9223372036854775807 - D.ts.toNat) ++ be8 (9223372036854775807 - D.seq.toNat)) (rest := []) (by rw [e]; simp) (by first | (simp; done) | (simp; omega) | (simp [be8]; done) | (simp [be8]; omega))
 have l8 : 0 + (ordL D.row).length + 1 + 1 + (ordL D.qual).length + 1 + 8 + 8 + 1 = bs.length := by rw [e]; first | (simp [be8]; done) | (simp [be8]; omega)
 rw [l8] at q8
 exact ⟨_, _, _, _, _, _, _, q1, q2, q3, q4, q5, q6, q7, q8⟩
theorem reads_fam {D : EntD} (hc : checkS D = 0) (hk : D.kind = 5) : ∃ p1 p2 p3 p6 p7, ordR (keyL D) 0 = (D.row, p1, 0) ∧ oneR (keyL D) p1 = (D.fam.toNat, p2, false) ∧ oneR (keyL D) p2 = (0, p3, false) ∧ fallR (keyL D) p3 = (D.ts.toNat, p6, 0) ∧ fallR (keyL D) p6 = (D.seq.toNat, p7, 0) ∧ oneR (keyL D) p7 = (D.kind.toNat, (keyL D).length, false) := by
 obtain ⟨_, f, _, _, t, s, k, _⟩ := check_facts hc
 have e := keyL_parts D
 rw [if_pos hk] at e
 have m5 : mark D.kind 5 = 0 := by simp [mark, hk]
 rw [m5] at e
 generalize keyL D = bs at e
 have q1 := ord_at (bs := bs) (l := D.row) (k := 0) (pre := []) (rest := ([D.fam.toNat] ++ ([0] ++ (be8 (9223372036854775807 - D.ts.toNat) ++ (be8 (9223372036854775807 - D.seq.toNat) ++ ([D.kind.toNat] ++ [])))))) (by rw [e]; simp) (by first | (simp; done) | (simp; omega) | (simp [be8]; done) | (simp [be8]; omega))
 have q2 := one_at' (bs := bs) (x := D.fam.toNat) (k := 0 + (ordL D.row).length) (pre := ordL D.row) (rest := ([0] ++ (be8 (9223372036854775807 - D.ts.toNat) ++ (be8 (9223372036854775807 - D.seq.toNat) ++ ([D.kind.toNat] ++ []))))) (by rw [e]; simp) (by first | (simp; done) | (simp; omega) | (simp [be8]; done) | (simp [be8]; omega))
 have q3 := one_at' (bs := bs) (x := 0) (k := 0 + (ordL D.row).length + 1) (pre := ordL D.row ++ [D.fam.toNat]) (rest := (be8 (9223372036854775807 - D.ts.toNat) ++ (be8 (9223372036854775807 - D.seq.toNat) ++ ([D.kind.toNat] ++ [])))) (by rw [e]; simp) (by first | (simp; done) | (simp; omega) | (simp [be8]; done) | (simp [be8]; omega))
 have q6 := fall_at' (bs := bs) (n := D.ts.toNat) (k := 0 + (ordL D.row).length + 1 + 1) (pre := ordL D.row ++ [D.fam.toNat] ++ [0]) (rest := (be8 (9223372036854775807 - D.seq.toNat) ++ ([D.kind.toNat] ++ []))) (by omega) (by rw [e]; simp) (by first | (simp; done) | (simp; omega) | (simp [be8]; done) | (simp [be8]; omega))
 have q7 := fall_at' (bs := bs) (n := D.seq.toNat) (k := 0 + (ordL D.row).length + 1 + 1 + 8) (pre := ordL D.row ++ [D.fam.toNat] ++ [0] ++ be8 (9223372036854775807 - D.ts.toNat)) (rest := ([D.kind.toNat] ++ [])) (by omega) (by rw [e]; simp) (by first | (simp; done) | (simp; omega) | (simp [be8]; done) | (simp [be8]; omega))
 have q8 := one_at' (bs := bs) (x := D.kind.toNat) (k := 0 + (ordL D.row).length + 1 + 1 + 8 + 8) (pre := ordL D.row ++ [D.fam.toNat] ++ [0] ++ be8 (9223372036854775807 - D.ts.toNat) ++ be8 (9223372036854775807 - D.seq.toNat)) (rest := []) (by rw [e]; simp) (by first | (simp; done) | (simp; omega) | (simp [be8]; done) | (simp [be8]; omega))
 have l8 : 0 + (ordL D.row).length + 1 + 1 + 8 + 8 + 1 = bs.length := by rw [e]; first | (simp [be8]; done) | (simp [be8]; omega)
 rw [l8] at q8
 exact ⟨_, _, _, _, _, q1, q2, q3, q6, q7, q8⟩

theorem seg_join {bs : List Nat} {i j k : Nat} (h1 : i ≤ j) (h2 : j ≤ k) (h3 : k ≤ bs.length) : (bs.take j).drop i ++ (bs.take k).drop j = (bs.take k).drop i := by
 apply List.ext_getElem?
 intro n
 by_cases hn : n < j - i
 ·rw [List.getElem?_append_left (by simp; omega)]
  rw [List.getElem?_drop, List.getElem?_drop, List.getElem?_take_of_lt (by omega), List.getElem?_take_of_lt (by omega)]
 ·rw [List.getElem?_append_right (by simp; omega), List.getElem?_drop, List.getElem?_drop]
  congr 1
  simp
  omega
theorem one_back {bs : List Nat} {k x P : Nat} (hk : k ≤ bs.length) (h : oneR bs k = (x, P, false)) : [x] = (bs.take P).drop k ∧ k ≤ P ∧ P ≤ bs.length := by
 unfold oneR at h
 split at h
 ·simp at h
 ·simp only [Prod.mk.injEq] at h
  obtain ⟨rfl, rfl, _⟩ := h
  have hlt : k < bs.length := by omega
  refine ⟨?_, by omega, by omega⟩
  rw [List.drop_take, show k + 1 - k = 1 by omega, drop_cons bs k hlt]
  rfl
theorem fall_back {bs : List Nat} {k V P : Nat} (hb : Bys bs) (h : fallR bs k = (V, P, 0)) : be8 (9223372036854775807 - V) = (bs.take P).drop k ∧ k ≤ P ∧ P ≤ bs.length := by
 unfold fallR at h
 split at h
 ·rename_i h1
  simp only [Prod.mk.injEq] at h
  exact absurd h.2.2 h1
 ·rename_i h1
  simp only [Prod.mk.injEq] at h
  obtain ⟨h2, h3, _⟩ := h
  have e : riseR bs k = ((riseR bs k).1, P, 0) := by
   rw [← h3]
   ext
   ·rfl
   ·rfl
   ·simpa using h1
  obtain ⟨r1, r2, r3, r4⟩ := rise_back hb e
  refine ⟨?_, by omega, r3⟩
  rw [← r1]
  congr 1
  omega

theorem back_plain {bs row qual : List Nat} {p1 p2 p3 p4 p5 p6 p7 p8 fam fm cm ts sq kd : Nat} (hb : Bys bs)
  (q1 : ordR bs 0 = (row, p1, 0)) (q2 : oneR bs p1 = (fam, p2, false)) (q3 : oneR bs p2 = (fm, p3, false)) (hfm : fm ≠ 0) (q4 : ordR bs p3 = (qual, p4, 0)) (q5 : oneR bs p4 = (cm, p5, false))
  (q6 : fallR bs p5 = (ts, p6, 0)) (q7 : fallR bs p6 = (sq, p7, 0)) (q8 : oneR bs p7 = (kd, p8, false)) (m5 : fm = mark kd 5) (m4 : cm = mark kd 4) (hp : p8 = bs.length) (vr vq vv : Value) (val : List Nat) :
  keyL ⟨vr, (fam : Int), vq, (ts : Int), (sq : Int), (kd : Int), vv, row, qual, val⟩ = bs := by
 obtain ⟨r1, s1, t1⟩ := ord_back (Nat.zero_le _) q1
 obtain ⟨r2, s2, t2⟩ := one_back t1 q2
 obtain ⟨r3, s3, t3⟩ := one_back t2 q3
 obtain ⟨r4, s4, t4⟩ := ord_back t3 q4
 obtain ⟨r5, s5, t5⟩ := one_back t4 q5
 obtain ⟨r6, s6, t6⟩ := fall_back hb q6
 obtain ⟨r7, s7, t7⟩ := fall_back hb q7
 obtain ⟨r8, s8, t8⟩ := one_back t7 q8
 have hk : ¬ ((kd : Int) = 5) := by
  intro h
  apply hfm
  rw [m5]
  simp [mark, h]
 rw [keyL_parts]
 simp only [Int.toNat_natCast]
 rw [if_neg hk, ← m5, ← m4, r1, r2, r3, r4, r5, r6, r7, r8, List.append_nil, List.append_assoc]
 rw [seg_join s7 s8 t8, seg_join s6 (by omega) t8, seg_join s5 (by omega) t8, seg_join (by omega) (by omega) t8, seg_join s3 (by omega) t8, seg_join s2 (by omega) t8, seg_join (by omega) (by omega) t8]
 rw [hp]
 simp
theorem back_fam {bs row : List Nat} {p1 p2 p3 p6 p7 p8 fam ts sq kd : Nat} (hb : Bys bs)
  (q1 : ordR bs 0 = (row, p1, 0)) (q2 : oneR bs p1 = (fam, p2, false)) (q3 : oneR bs p2 = (0, p3, false))
  (q6 : fallR bs p3 = (ts, p6, 0)) (q7 : fallR bs p6 = (sq, p7, 0)) (q8 : oneR bs p7 = (kd, p8, false)) (m5 : 0 = mark kd 5) (hp : p8 = bs.length) (vr vq vv : Value) (val : List Nat) :
  keyL ⟨vr, (fam : Int), vq, (ts : Int), (sq : Int), (kd : Int), vv, row, [], val⟩ = bs := by
 obtain ⟨r1, s1, t1⟩ := ord_back (Nat.zero_le _) q1
 obtain ⟨r2, s2, t2⟩ := one_back t1 q2
 obtain ⟨r3, s3, t3⟩ := one_back t2 q3
 obtain ⟨r6, s6, t6⟩ := fall_back hb q6
 obtain ⟨r7, s7, t7⟩ := fall_back hb q7
 obtain ⟨r8, s8, t8⟩ := one_back t7 q8
 have hk : (kd : Int) = 5 := by
  by_cases h : (kd : Int) = 5
  ·exact h
  ·simp [mark, h] at m5
 rw [keyL_parts]
 simp only [Int.toNat_natCast]
 rw [if_pos hk, ← m5, r1, r2, r3, r6, r7, r8, List.append_nil, List.nil_append]
 rw [seg_join s7 s8 t8, seg_join s6 (by omega) t8, seg_join s3 (by omega) t8, seg_join s2 (by omega) t8, seg_join (by omega) (by omega) t8]
 rw [hp]
 simp

end Go.Proofs.YtchebhafabhabaaGreatDoor

namespace Go.Proofs.YtchebhafabhabaaGreatDoor
open Go.RowKit
set_option linter.unusedVariables false

theorem rord_ok : ∀ (m : Nat) (l acc : List Nat) (i : Nat), l.length ≤ m → Bys l → Bys acc → Bys (rord l acc i).1 ∧ (rord l acc i).1.length ≤ acc.length + l.length := by
 intro m
 induction m with
 | zero =>
  intro l acc i hl hb ha
  obtain rfl : l = [] := List.eq_nil_of_length_eq_zero (by omega)
  rw [rord_nil]
  exact ⟨fun x hx => by simp at hx, by simp⟩
 | succ m ih =>
  intro l acc i hl hb ha
  cases l with
  | nil => rw [rord_nil]; exact ⟨fun x hx => by simp at hx, by simp⟩
  | cons c r =>
   by_cases hc : c = 0
   ·subst hc
    cases r with
    | nil => exact ⟨fun x hx => by simp [rord] at hx, by simp [rord]⟩
    | cons d r =>
     rw [rord_zero]
     split
     ·exact ⟨ha, by simp⟩
     ·split
      ·obtain ⟨h1, h2⟩ := ih r (acc ++ [0]) (i + 2) (by simp at hl; omega) (fun x hx => hb x (by simp [hx])) (ha.app (fun x hx => by simp at hx; omega))
       exact ⟨h1, by simp at h2 ⊢; omega⟩
      ·exact ⟨fun x hx => by simp at hx, by simp⟩
   ·rw [rord_step _ _ _ _ hc]
    obtain ⟨h1, h2⟩ := ih r (acc ++ [c]) (i + 1) (by simp at hl; omega) (fun x hx => hb x (by simp [hx])) (ha.app (fun x hx => by simp at hx; subst hx; exact hb _ (by simp)))
    exact ⟨h1, by simp at h2 ⊢; omega⟩
theorem ordR_ok (bs : List Nat) (k : Nat) (hb : Bys bs) : Bys (ordR bs k).1 ∧ (ordR bs k).1.length ≤ bs.length := by
 obtain ⟨h1, h2⟩ := rord_ok _ (bs.drop k) [] 0 (Nat.le_refl _) (fun x hx => hb x (List.mem_of_mem_drop hx)) (fun x hx => by simp at hx)
 exact ⟨h1, by have : (ordR bs k).1 = (rord (bs.drop k) [] 0).1 := rfl; rw [this]; simp at h2; omega⟩

end Go.Proofs.YtchebhafabhabaaGreatDoor

namespace Go.Proofs.YtchebhafabhabaaGreatDoor
open Go.RowKit
set_option linter.unusedVariables false

def IsKey (bs : List Nat) : Prop := ∃ D : EntD, checkS D = 0 ∧ D.val = [] ∧ keyL D = bs
theorem checkS_eq {D : EntD} (hc : checkS D = 0) (hv : D.val = []) (a b c : Value) : checkS ⟨a, ((D.fam.toNat : Nat) : Int), b, ((D.ts.toNat : Nat) : Int), ((D.seq.toNat : Nat) : Int), ((D.kind.toNat : Nat) : Int), c, D.row, D.qual, []⟩ = 0 := by
 obtain ⟨_, f, _, _, t, s, k, _⟩ := check_facts hc
 have e : checkS ⟨a, ((D.fam.toNat : Nat) : Int), b, ((D.ts.toNat : Nat) : Int), ((D.seq.toNat : Nat) : Int), ((D.kind.toNat : Nat) : Int), c, D.row, D.qual, []⟩ = checkS D := by
  unfold checkS
  simp only [Int.toNat_of_nonneg f.1, Int.toNat_of_nonneg (show 0 ≤ D.ts by omega), Int.toNat_of_nonneg s.1, Int.toNat_of_nonneg (show 0 ≤ D.kind by omega), hv]
 rw [e, hc]

theorem mark_toNat {k : Int} (h : 0 ≤ k) (a : Int) : mark ((k.toNat : Nat) : Int) a = mark k a := by rw [Int.toNat_of_nonneg h]
def ParsedAs (w w' : World) (r : Ending) (bs : List Nat) : Prop :=
 Below w.heap.size w w' ∧
 ((∃ D : EntD, checkS D = 0 ∧ D.val = [] ∧ keyL D = bs ∧ Bys D.row ∧ Bys D.qual ∧ D.vv = .slice none 0 0 ∧ r = .returned (.tuple #[.agg D.cells, .int .i64 0]) ∧ Own w' w.heap.size D.vr D.row.length D.row ∧ ∃ B, w.heap.size ≤ B ∧ Own w' B D.vq D.qual.length D.qual ∧ ∀ k, D.vr.ownBlock = some k → k < B) ∨
  (¬ IsKey bs ∧ r = .returned (.tuple #[.agg #[.slice none 0 0, .int .i64 0, .slice none 0 0, .int .i64 0, .int .i64 0, .int .i64 0, .slice none 0 0], .int .i64 27])))

theorem parse_any {w : World} {m c : Nat} {a : Option Addr} {bs : List Nat} (hr : Rd w (.slice a m c) bs) (h47 : bs.length ≤ 140737488355328) :
  Calls Tryz.prog 104 #[.slice a m c] w fun e w' => ParsedAs w w' e bs := by
 have hm : m = bs.length := (rd_lens hr).1
 obtain ⟨⟨row, p1, E1⟩, q1⟩ : ∃ x, ordR bs 0 = x := ⟨_, rfl⟩
 obtain ⟨⟨fam, p2, b2⟩, q2⟩ : ∃ x, oneR bs p1 = x := ⟨_, rfl⟩
 obtain ⟨⟨fm, p3, b3⟩, q3⟩ : ∃ x, oneR bs p2 = x := ⟨_, rfl⟩
 have hbr : Bys row ∧ row.length ≤ 281474976710656 := by
  have := ordR_ok bs 0 hr.1
  rw [q1] at this
  exact ⟨this.1, by have := this.2; simp only at this; omega⟩
 by_cases hfm : fm = 0
 ·subst hfm
  obtain ⟨⟨ts, p6, E6⟩, q6⟩ : ∃ x, fallR bs p3 = x := ⟨_, rfl⟩
  obtain ⟨⟨sq, p7, E7⟩, q7⟩ : ∃ x, fallR bs p6 = x := ⟨_, rfl⟩
  obtain ⟨⟨kd, p8, b8⟩, q8⟩ : ∃ x, oneR bs p7 = x := ⟨_, rfl⟩
  refine (parse_read (row := row) (qual := []) (fam := fam) (ts := ts) (sq := sq) (kd := kd) (p := p8) hr hbr ⟨by intro x hx; simp at hx, by simp⟩ (fun W g rb rd => entry_fam rb rd h47 q1 q2 q3 q6 q7 q8)).mono ?_
  rintro e w' ⟨hbad, hgood, hb⟩
  refine ⟨hb, ?_⟩
  by_cases G : (E1 = 0 ∧ b2 = false ∧ b3 = false ∧ E6 = 0 ∧ E7 = 0 ∧ b8 = false ∧ 0 = mark kd 5 ∧ 1 = mark kd 4) ∧ p8 = m ∧ checkS ⟨.slice none 0 0, fam, .slice none 0 0, ts, sq, kd, .slice none 0 0, row, [], []⟩ = 0
  ·obtain ⟨vr, vq, he, o1, B, hB, o2, hlt⟩ := hgood G
   obtain ⟨⟨rfl, rfl, rfl, rfl, rfl, rfl, g7, _⟩, g9, g10⟩ := G
   refine .inl ⟨⟨vr, fam, vq, ts, sq, kd, .slice none 0 0, row, [], []⟩, g10, rfl, ?_, hbr.1, by intro x hx; simp at hx, rfl, he, o1, B, hB, o2, hlt⟩
   exact back_fam hr.1 q1 q2 q3 q6 q7 q8 g7 (by omega) _ _ _ _
  ·refine .inr ⟨?_, hbad G⟩
   rintro ⟨D, hc, hv, hk⟩
   apply G
   by_cases k5 : D.kind = 5
   ·obtain ⟨u1, u2, u3, u6, u7, r1, r2, r3, r6, r7, r8⟩ := reads_fam hc k5
    rw [hk] at r1 r2 r3 r6 r7 r8
    rw [q1] at r1
    simp only [Prod.mk.injEq] at r1
    obtain ⟨rfl, rfl, rfl⟩ := r1
    rw [q2] at r2
    simp only [Prod.mk.injEq] at r2
    obtain ⟨rfl, rfl, rfl⟩ := r2
    rw [q3] at r3
    simp only [Prod.mk.injEq] at r3
    obtain ⟨_, rfl, rfl⟩ := r3
    rw [q6] at r6
    simp only [Prod.mk.injEq] at r6
    obtain ⟨rfl, rfl, rfl⟩ := r6
    rw [q7] at r7
    simp only [Prod.mk.injEq] at r7
    obtain ⟨rfl, rfl, rfl⟩ := r7
    rw [q8] at r8
    simp only [Prod.mk.injEq] at r8
    obtain ⟨rfl, rfl, rfl⟩ := r8
    have hq := (check_facts hc).2.2.2.1 k5
    have hcs := checkS_eq hc hv (.slice none 0 0) (.slice none 0 0) (.slice none 0 0)
    rw [hq] at hcs
    exact ⟨⟨rfl, rfl, rfl, rfl, rfl, rfl, by simp [mark, k5], by simp [mark, k5]⟩, hm.symm, hcs⟩
   ·obtain ⟨u1, u2, u3, u4, u5, u6, u7, r1, r2, r3, _⟩ := reads_plain hc k5
    rw [hk] at r1 r2 r3
    rw [q1] at r1
    simp only [Prod.mk.injEq] at r1
    obtain ⟨rfl, rfl, rfl⟩ := r1
    rw [q2] at r2
    simp only [Prod.mk.injEq] at r2
    obtain ⟨rfl, rfl, rfl⟩ := r2
    rw [q3] at r3
    simp at r3
 ·obtain ⟨⟨qual, p4, E4⟩, q4⟩ : ∃ x, ordR bs p3 = x := ⟨_, rfl⟩
  obtain ⟨⟨cm, p5, b5⟩, q5⟩ : ∃ x, oneR bs p4 = x := ⟨_, rfl⟩
  obtain ⟨⟨ts, p6, E6⟩, q6⟩ : ∃ x, fallR bs p5 = x := ⟨_, rfl⟩
  obtain ⟨⟨sq, p7, E7⟩, q7⟩ : ∃ x, fallR bs p6 = x := ⟨_, rfl⟩
  obtain ⟨⟨kd, p8, b8⟩, q8⟩ : ∃ x, oneR bs p7 = x := ⟨_, rfl⟩
  have hbq : Bys qual ∧ qual.length ≤ 281474976710656 := by
   have := ordR_ok bs p3 hr.1
   rw [q4] at this
   exact ⟨this.1, by have := this.2; simp only at this; omega⟩
  refine (parse_read (row := row) (qual := qual) (fam := fam) (ts := ts) (sq := sq) (kd := kd) (p := p8) hr hbr hbq (fun W g rb rd => entry_plain rb rd h47 q1 q2 q3 hfm q4 q5 q6 q7 q8)).mono ?_
  rintro e w' ⟨hbad, hgood, hb⟩
  refine ⟨hb, ?_⟩
  by_cases G : (E1 = 0 ∧ b2 = false ∧ b3 = false ∧ E4 = 0 ∧ b5 = false ∧ E6 = 0 ∧ E7 = 0 ∧ b8 = false ∧ fm = mark kd 5 ∧ cm = mark kd 4) ∧ p8 = m ∧ checkS ⟨.slice none 0 0, fam, .slice none 0 0, ts, sq, kd, .slice none 0 0, row, qual, []⟩ = 0
  ·obtain ⟨vr, vq, he, o1, B, hB, o2, hlt⟩ := hgood G
   obtain ⟨⟨rfl, rfl, rfl, rfl, rfl, rfl, rfl, rfl, g7, g8⟩, g9, g10⟩ := G
   refine .inl ⟨⟨vr, fam, vq, ts, sq, kd, .slice none 0 0, row, qual, []⟩, g10, rfl, ?_, hbr.1, hbq.1, rfl, he, o1, B, hB, o2, hlt⟩
   exact back_plain hr.1 q1 q2 q3 hfm q4 q5 q6 q7 q8 g7 g8 (by omega) _ _ _ _
  ·refine .inr ⟨?_, hbad G⟩
   rintro ⟨D, hc, hv, hk⟩
   apply G
   by_cases k5 : D.kind = 5
   ·obtain ⟨u1, u2, u3, u6, u7, r1, r2, r3, _⟩ := reads_fam hc k5
    rw [hk] at r1 r2 r3
    rw [q1] at r1
    simp only [Prod.mk.injEq] at r1
    obtain ⟨rfl, rfl, rfl⟩ := r1
    rw [q2] at r2
    simp only [Prod.mk.injEq] at r2
    obtain ⟨rfl, rfl, rfl⟩ := r2
    rw [q3] at r3
    simp only [Prod.mk.injEq] at r3
    exact absurd r3.1 hfm
   ·obtain ⟨u1, u2, u3, u4, u5, u6, u7, r1, r2, r3, r4, r5, r6, r7, r8⟩ := reads_plain hc k5
    rw [hk] at r1 r2 r3 r4 r5 r6 r7 r8
    rw [q1] at r1
    simp only [Prod.mk.injEq] at r1
    obtain ⟨rfl, rfl, rfl⟩ := r1
    rw [q2] at r2
    simp only [Prod.mk.injEq] at r2
    obtain ⟨rfl, rfl, rfl⟩ := r2
    rw [q3] at r3
    simp only [Prod.mk.injEq] at r3
    obtain ⟨rfl, rfl, rfl⟩ := r3
    rw [q4] at r4
    simp only [Prod.mk.injEq] at r4
    obtain ⟨rfl, rfl, rfl⟩ := r4
    rw [q5] at r5
    simp only [Prod.mk.injEq] at r5
    obtain ⟨rfl, rfl, rfl⟩ := r5
    rw [q6] at r6
    simp only [Prod.mk.injEq] at r6
    obtain ⟨rfl, rfl, rfl⟩ := r6
    rw [q7] at r7
    simp only [Prod.mk.injEq] at r7
    obtain ⟨rfl, rfl, rfl⟩ := r7
    rw [q8] at r8
    simp only [Prod.mk.injEq] at r8
    obtain ⟨rfl, rfl, rfl⟩ := r8
    have hk0 : 0 ≤ D.kind := Int.le_trans (by decide) (check_facts hc).2.2.2.2.2.2.1.1
    exact ⟨⟨rfl, rfl, rfl, rfl, rfl, rfl, rfl, rfl, by rw [mark_toNat hk0]; simp [mark, k5], (mark_toNat hk0 4).symm⟩, hm.symm, checkS_eq hc hv _ _ _⟩

end Go.Proofs.YtchebhafabhabaaGreatDoor

namespace Go.Proofs.YtchebhafabhabaaGreatDoor
open Go.RowKit
set_option linter.unusedVariables false

theorem bytesL_bys {l : List Nat} (h : Bys l) (hl : l.length < 18446744073709551616) : Bys (bytesL l) := Bys.app (uintL_bys _ hl) h
def packL (e : EntD) : List Nat := bytesL (keyL e) ++ bytesL e.val

def EntD.Same (a b : EntD) : Prop := a.fam = b.fam ∧ a.ts = b.ts ∧ a.seq = b.seq ∧ a.kind = b.kind ∧ a.row = b.row ∧ a.qual = b.qual ∧ a.val = b.val
end Go.Proofs.YtchebhafabhabaaGreatDoor

namespace Go.Proofs.YtchebhafabhabaaGreatDoor
open Go.RowKit
set_option linter.unusedVariables false

theorem Own.far {w w' : World} {B m : Nat} {v : Value} {o : Option Nat} {xs : List Nat} (h : Own w B v m xs) (k : w.grownBy w' o) (hne : ∀ g, o = some g → v.ownBlock ≠ some g) : Own w' B v m xs := by
 refine ⟨h.1, h.2.1, ?_⟩
 rcases h.2.2 with h2 | ⟨g, cap, cur, h3, h4, h5, h6⟩
 ·exact .inl h2
 ·refine .inr ⟨g, cap, cur, h3, h4, ?_, h6⟩
  rw [k.block g (Array.getElem?_eq_some_iff.1 h5).1 ?_]
  ·exact h5
  ·intro e
   exact hne g e.symm (by rw [h3]; rfl)
open Classical in
noncomputable def startL (r : List Nat) : List Nat := if RowOk r then ordL r else []
open Classical in
noncomputable def behindL (r : List Nat) : List Nat := if RowOk r then ordL r ++ [255] else []
open Classical in
noncomputable def rowE (r : List Nat) : Nat := if RowOk r then 0 else 20
end Go.Proofs.YtchebhafabhabaaGreatDoor

namespace Go.Proofs.YtchebhafabhabaaGreatDoor
open Go.RowKit
set_option linter.unusedVariables false

set_option maxRecDepth 100000 in
set_option maxHeartbeats 4000000 in
theorem refCheck_any {e : EntD} {w : World} (hok : EntD.Ok w e) :
  Calls Tryz.prog 47 #[.agg e.cells] w fun r w' => r = .returned (.int .i64 ((checkS e : Nat) : Int)) ∧ Below w.heap.size w w' := by
 obtain ⟨vr, fam, vq, ts, seq, kind, vv, row, qual, val⟩ := e
 obtain ⟨h1, h2, h3⟩ := hok
 simp only [EntD.cells] at *
 obtain ⟨ar, nr, cr, rfl⟩ := rd_slice h1
 obtain ⟨aq, nq, cq, rfl⟩ := rd_slice h2
 obtain ⟨av, nv, cv, rfl⟩ := rd_slice h3
 obtain ⟨er, _, _, lr⟩ := rd_lens h1
 obtain ⟨eq, _, _, lq⟩ := rd_lens h2
 obtain ⟨ev, _, _, lv⟩ := rd_lens h3
 have A1 := (Below.refl w.heap.size w).alloc (Nat.le_refl _) (.cells #[.slice ar nr cr, .int .i64 fam, .slice aq nq cq, .int .i64 ts, .int .i64 seq, .int .i64 kind, .slice av nv cv] 40)
 obtain ⟨S, hS⟩ : ∃ S, S = checkS ⟨.slice ar nr cr, fam, .slice aq nq cq, ts, seq, kind, .slice av nv cv, row, qual, val⟩ := ⟨_, rfl⟩
 rw [← hS]
 unfold checkS at hS
 simp only at hS
 rw [← er, ← eq, ← ev] at hS
 have HS : Hid (S = _) := hS
 clear hS er eq ev h1 h2 h3
 go_enter Tryz.func47, Tryz.ntmps47
 go_wp2_with fail
 by_cases c1 : nr = 0 ∨ 256 < nr
 ·refine (refOut_out _ _ _ _ (by omega)).mono ?_
  rintro e1 w1 ⟨rfl, rfl⟩
  have HE : Hid (S = 20) := by unfold Hid; rw [HS.out]; repeat (first | rw [if_pos (by omega)] | rw [if_neg (by omega)])
  clear HS
  go_wp2
  go_ret
  exact ⟨by rw [HE.out]; rfl, A1⟩
 refine (refOut_in _ _ _ _ (by omega) (by omega)).mono ?_
 rintro e1 w1 ⟨rfl, rfl⟩
 go_wp2_with fail
 by_cases c2 : fam < 0 ∨ 8 ≤ fam
 ·refine (refOut_out _ _ _ _ (by omega)).mono ?_
  rintro e1 w1 ⟨rfl, rfl⟩
  have HE : Hid (S = 21) := by unfold Hid; rw [HS.out]; repeat (first | rw [if_pos (by omega)] | rw [if_neg (by omega)])
  clear HS
  go_wp2
  go_ret
  exact ⟨by rw [HE.out]; rfl, A1⟩
 refine (refOut_in _ _ _ _ (by omega) (by omega)).mono ?_
 rintro e1 w1 ⟨rfl, rfl⟩
 by_cases c3 : 256 < nq
 ·have q1 : (256 : Int) < (nq : Int) := by omega
  have HE : Hid (S = 22) := by unfold Hid; rw [HS.out]; repeat (first | rw [if_pos (by omega)] | rw [if_neg (by omega)])
  clear HS
  go_wp2
  go_ret
  exact ⟨by rw [HE.out]; rfl, A1⟩
 have q1 : (nq : Int) ≤ 256 := by omega
 by_cases k5 : kind = 5
 ·subst k5
  by_cases q0 : 0 < nq
  ·have q2 : (0 : Int) < (nq : Int) := by omega
   have HE : Hid (S = 22) := by unfold Hid; rw [HS.out]; repeat (first | rw [if_pos (by omega)] | rw [if_neg (by omega)])
   clear HS
   go_wp2
   go_ret
   exact ⟨by rw [HE.out]; rfl, A1⟩
  have q2 : (nq : Int) ≤ 0 := by omega
  go_wp2_with fail
  by_cases c4 : ts < 1 ∨ 1099511627776 < ts
  ·refine (refOut_out _ _ _ _ (by omega)).mono ?_
   rintro e1 w1 ⟨rfl, rfl⟩
   have HE : Hid (S = 23) := by unfold Hid; rw [HS.out]; repeat (first | rw [if_pos (by omega)] | rw [if_neg (by omega)])
   clear HS
   go_wp2
   go_ret
   exact ⟨by rw [HE.out]; rfl, A1⟩
  refine (refOut_in _ _ _ _ (by omega) (by omega)).mono ?_
  rintro e1 w1 ⟨rfl, rfl⟩
  go_wp2_with fail
  by_cases c5 : seq < 0 ∨ 17592186044431 < seq
  ·refine (refOut_out _ _ _ _ (by omega)).mono ?_
   rintro e1 w1 ⟨rfl, rfl⟩
   have HE : Hid (S = 24) := by unfold Hid; rw [HS.out]; repeat (first | rw [if_pos (by omega)] | rw [if_neg (by omega)])
   clear HS
   go_wp2
   go_ret
   exact ⟨by rw [HE.out]; rfl, A1⟩
  refine (refOut_in _ _ _ _ (by omega) (by omega)).mono ?_
  rintro e1 w1 ⟨rfl, rfl⟩
  go_wp2_with fail
  refine (refOut_in _ _ _ _ (by decide) (by decide)).mono ?_
  rintro e1 w1 ⟨rfl, rfl⟩
  by_cases c7 : 4096 < nv
  ·have v1 : (4096 : Int) < (nv : Int) := by omega
   have HE : Hid (S = 26) := by unfold Hid; rw [HS.out]; repeat (first | rw [if_pos (by omega)] | rw [if_neg (by omega)])
   clear HS
   go_wp2
   go_ret
   exact ⟨by rw [HE.out]; rfl, A1⟩
  have v1 : (nv : Int) ≤ 4096 := by omega
  by_cases c9 : 0 < nv
  ·have v0 : (0 : Int) < (nv : Int) := by omega
   have HE : Hid (S = 26) := by unfold Hid; rw [HS.out]; repeat (first | rw [if_pos (by omega)] | rw [if_neg (by omega)])
   clear HS
   go_wp2
   go_ret
   exact ⟨by rw [HE.out]; rfl, A1⟩
  have v0 : (nv : Int) ≤ 0 := by omega
  have HE : Hid (S = 0) := by unfold Hid; rw [HS.out]; repeat (first | rw [if_pos (by omega)] | rw [if_neg (by omega)])
  clear HS
  go_wp2
  go_ret
  exact ⟨by rw [HE.out]; rfl, A1⟩
 have k51 : (kind == 5) = false := by simp; omega
 go_wp2_with fail
 by_cases c4 : ts < 1 ∨ 1099511627776 < ts
 ·refine (refOut_out _ _ _ _ (by omega)).mono ?_
  rintro e1 w1 ⟨rfl, rfl⟩
  have HE : Hid (S = 23) := by unfold Hid; rw [HS.out]; repeat (first | rw [if_pos (by omega)] | rw [if_neg (by omega)])
  clear HS
  go_wp2
  go_ret
  exact ⟨by rw [HE.out]; rfl, A1⟩
 refine (refOut_in _ _ _ _ (by omega) (by omega)).mono ?_
 rintro e1 w1 ⟨rfl, rfl⟩
 go_wp2_with fail
 by_cases c5 : seq < 0 ∨ 17592186044431 < seq
 ·refine (refOut_out _ _ _ _ (by omega)).mono ?_
  rintro e1 w1 ⟨rfl, rfl⟩
  have HE : Hid (S = 24) := by unfold Hid; rw [HS.out]; repeat (first | rw [if_pos (by omega)] | rw [if_neg (by omega)])
  clear HS
  go_wp2
  go_ret
  exact ⟨by rw [HE.out]; rfl, A1⟩
 refine (refOut_in _ _ _ _ (by omega) (by omega)).mono ?_
 rintro e1 w1 ⟨rfl, rfl⟩
 go_wp2_with fail
 by_cases c6 : kind < 1 ∨ 5 < kind
 ·refine (refOut_out _ _ _ _ (by omega)).mono ?_
  rintro e1 w1 ⟨rfl, rfl⟩
  have HE : Hid (S = 25) := by unfold Hid; rw [HS.out]; repeat (first | rw [if_pos (by omega)] | rw [if_neg (by omega)])
  clear HS
  go_wp2
  go_ret
  exact ⟨by rw [HE.out]; rfl, A1⟩
 refine (refOut_in _ _ _ _ (by omega) (by omega)).mono ?_
 rintro e1 w1 ⟨rfl, rfl⟩
 by_cases c7 : 4096 < nv
 ·have v1 : (4096 : Int) < (nv : Int) := by omega
  have HE : Hid (S = 26) := by unfold Hid; rw [HS.out]; repeat (first | rw [if_pos (by omega)] | rw [if_neg (by omega)])
  clear HS
  go_wp2
  go_ret
  exact ⟨by rw [HE.out]; rfl, A1⟩
 have v1 : (nv : Int) ≤ 4096 := by omega
 by_cases c8 : kind = 1
 ·subst c8
  have HE : Hid (S = 0) := by unfold Hid; rw [HS.out]; repeat (first | rw [if_pos (by omega)] | rw [if_neg (by omega)])
  clear HS
  go_wp2
  go_ret
  exact ⟨by rw [HE.out]; rfl, A1⟩
 have k1 : (kind != 1) = true := by simp; omega
 have k2 : (kind == 1) = false := by simp; omega
 by_cases c9 : 0 < nv
 ·have v0 : (0 : Int) < (nv : Int) := by omega
  have HE : Hid (S = 26) := by unfold Hid; rw [HS.out]; repeat (first | rw [if_pos (by omega)] | rw [if_neg (by omega)])
  clear HS
  go_wp2
  go_ret
  exact ⟨by rw [HE.out]; rfl, A1⟩
 have v0 : (nv : Int) ≤ 0 := by omega
 have HE : Hid (S = 0) := by unfold Hid; rw [HS.out]; repeat (first | rw [if_pos (by omega)] | rw [if_neg (by omega)])
 clear HS
 go_wp2
 go_ret
 exact ⟨by rw [HE.out]; rfl, A1⟩

end Go.Proofs.YtchebhafabhabaaGreatDoor

namespace Go.Proofs.YtchebhafabhabaaGreatDoor
open Go.RowKit
set_option linter.unusedVariables false

set_option maxRecDepth 100000 in
set_option maxHeartbeats 4000000 in
theorem refkey_any {e : EntD} {w : World} (hok : EntD.Ok w e) (hc : checkS e = 0) :
  Calls Tryz.prog 78 #[.agg e.cells] w fun r w' => ∃ a m c, r = .returned (.slice a m c) ∧ Own w' w.heap.size (.slice a m c) m (keyL e) ∧ Below w.heap.size w w' := by
 obtain ⟨f1, f2, f3, f4, f5, f6, f7, _, _⟩ := check_facts hc
 have A1 := (Below.refl w.heap.size w).alloc (Nat.le_refl _) (.cells e.cells 40)
 have bx1 : Hid (EBox (w.alloc (.cells e.cells 40)) w.heap.size e) := EBox.new w e
 obtain ⟨vr, fam, vq, ts, seq, kind, vv, row, qual, val⟩ := e
 obtain ⟨h1, h2, h3⟩ := hok
 simp only [EntD.cells] at *
 obtain ⟨fm, rfl⟩ := Int.eq_ofNat_of_zero_le f2.1
 obtain ⟨t, rfl⟩ := Int.eq_ofNat_of_zero_le (show 0 ≤ ts by omega)
 obtain ⟨sq, rfl⟩ := Int.eq_ofNat_of_zero_le f6.1
 obtain ⟨kd, rfl⟩ := Int.eq_ofNat_of_zero_le (show 0 ≤ kind by omega)
 have HOR : Hid ((ordL row).length ≤ 514 ∧ Bys (ordL row)) := ⟨by have := ordL_len row; have : row.count 0 ≤ row.length := List.count_le_length; omega, ordL_bys row h1.1⟩
 have HOQ : Hid ((ordL qual).length ≤ 514 ∧ Bys (ordL qual)) := ⟨by have := ordL_len qual; have : qual.count 0 ≤ qual.length := List.count_le_length; omega, ordL_bys qual h2.1⟩
 have hfm : fm < 8 := by omega
 have hkd : kd ≤ 5 := by omega
 have hts : t < 9223372036854775808 := by omega
 have hsq : sq < 9223372036854775808 := by omega
 have em1 : (fm : Int) % 256 = (fm : Int) := by omega
 have em2 : (kd : Int) % 256 = (kd : Int) := by omega
 have HRR : Hid (Rd w vr row) := h1
 have HRQ : Hid (Rd w vq qual) := h2
 clear h1 h2 h3 f1 f2 f3 f5 f6 f7 f4 hc
 go_enter Tryz.func78, Tryz.ntmps78
 go_wp2_with fail
 refine (refOrdered_any (HRR.out.later A1) (by have := HOR.out.1; omega)).mono ?_
 rintro e1 w1 ⟨a1, m1, c1, rfl, own1x, hb1⟩
 have B1 := A1.trans (hb1.mono A1.size)
 have bxw1 : Hid (EBox w1 w.heap.size _) := bx1.out.later hb1
 have hG : w.heap.size < w.heap.size + 1 := by omega
 have own1 : Own w1 (w.heap.size + 1) (.slice a1 m1 c1) m1 (ordL row) := by simpa using own1x
 have hS1 : w.heap.size + 1 ≤ w1.heap.size := by have := hb1.size; simpa using this
 have hm1 : m1 ≤ 514 := by rw [own1.1]; exact HOR.out.1
 clear hb1 bx1 own1x A1
 have xfam1 := bxw1.out.fam
 simp only at xfam1
 go_wp2_with (at_builtin; refine wpList_append_new rfl _ _ rfl (w.heap.size + 1) a1 m1 c1 _ rfl own1 [_] 1 rfl [fm] (by first | rfl | (simp [bv]; done) | (simp [bv]; omega)) rfl (by omega) hS1 ?_; intro a2 m2 c2 w2 own2 hb2; refine Hid.out ?_)
 refine Lib.hid ?_
 have hm2 : m2 ≤ 515 := by rw [own2.1, List.length_append, ← own1.1]; simp; omega
 have bxw2 : Hid (EBox w2 w.heap.size _) := bxw1.out.keep hb2 hG
 have B2 := B1.trans (hb2.mono (Nat.le_of_lt hG))
 have hS2 : w.heap.size + 1 ≤ w2.heap.size := Nat.le_trans hS1 hb2.size
 clear bxw1 B1 hS1 hb2 own1 hm1
 clear xfam1
 by_cases hk5 : kd = 5
 ·have HKL : Hid (keyL ⟨vr, (fm : Int), vq, (t : Int), (sq : Int), (kd : Int), vv, row, qual, val⟩ = ((((ordL row ++ [fm]) ++ [0]) ++ be8 (9223372036854775807 - t)) ++ be8 (9223372036854775807 - sq)) ++ [kd]) := by
   unfold Hid keyL mark
   have : (kd : Int) = 5 := by omega
   simp [this]
   omega
  have hkn : ((kd : Int) == 5) = true := by simp; omega
  have xkind2 := bxw2.out.kind
  simp only at xkind2
  go_wp2_with (at_builtin; refine wpList_append_new rfl _ _ rfl (w.heap.size + 1) a2 m2 c2 _ rfl own2 [_] 1 rfl [0] (by first | rfl | (simp [bv]; done) | (simp [bv]; omega)) rfl (by omega) hS2 ?_; intro a3 m3 c3 w3 own3 hb3; refine Hid.out ?_)
  refine Lib.hid ?_
  have hm3 : m3 ≤ 516 := by rw [own3.1, List.length_append, ← own2.1]; simp; omega
  have bxw3 : Hid (EBox w3 w.heap.size _) := bxw2.out.keep hb3 hG
  have B3 := B2.trans (hb3.mono (Nat.le_of_lt hG))
  have hS3 : w.heap.size + 1 ≤ w3.heap.size := Nat.le_trans hS2 hb3.size
  clear bxw2 B2 hS2 hb3 own2 hm2
  clear xkind2
  have xts3 := bxw3.out.ts
  simp only at xts3
  go_wp2_with fail
  refine (refFalling_any t hts _).mono ?_
  rintro e7 w7 ⟨a7, m7, c7, rfl, own7, hb7⟩
  have hm7 : m7 = 8 := own7.1
  subst hm7
  have r7 : Rd w7 (.slice a7 8 c7) _ := own7.rd (be8_bys _) (by omega)
  have own67 := own3.later hb7
  have bxw7 : Hid (EBox w7 w.heap.size _) := bxw3.out.later hb7
  have B7 := B3.trans (hb7.mono B3.size)
  have hS7 : w.heap.size + 1 ≤ w7.heap.size := Nat.le_trans hS3 hb7.size
  clear bxw3 B3 hS3 hb7 own3 own7 xts3
  have xseq7 := bxw7.out.seq
  simp only at xseq7
  go_wp2_with fail
  refine (refFalling_any sq hsq _).mono ?_
  rintro e8 w8 ⟨a8, m8, c8, rfl, own8, hb8⟩
  have hm8 : m8 = 8 := own8.1
  subst hm8
  have r78 := r7.later hb8
  have own68 := own67.later hb8
  have HLT : Hid (∀ g, (Value.slice a3 m3 c3).ownBlock = some g → g < w7.heap.size) := fun g hg => (own67.2.lt g hg).2
  have bxw8 : Hid (EBox w8 w.heap.size _) := bxw7.out.later hb8
  have B8 := B7.trans (hb8.mono B7.size)
  have hS8 : w.heap.size + 1 ≤ w8.heap.size := Nat.le_trans hS7 hb8.size
  have R8 : Hid (Own w8 w7.heap.size (.slice a8 8 c8) 8 (be8 (9223372036854775807 - sq)) ∧ Below w7.heap.size w7 w8) := ⟨own8, hb8⟩
  clear bxw7 B7 hb8 own67 own8 xseq7 r7
  go_wp2_with (at_builtin; refine wpList_append_gr rfl _ _ rfl (w.heap.size + 1) a3 m3 c3 _ rfl own68 a7 8 c7 _ rfl r78 (by omega) hS8 ?_; intro a9 m9 c9 w9 own9 hb9 gr9; refine Hid.out ?_)
  refine Lib.hid ?_
  have hm9 : m9 ≤ 524 := by rw [own9.1, List.length_append, ← own68.1]; simp [be8]; omega
  have r9 : Rd w9 (.slice a8 8 c8) _ := (R8.out.1.grown gr9 HLT.out).rd (be8_bys _) (by omega)
  have bxw9 : Hid (EBox w9 w.heap.size _) := bxw8.out.keep hb9 hG
  have B9 := B8.trans (hb9.mono (Nat.le_of_lt hG))
  have hS9 : w.heap.size + 1 ≤ w9.heap.size := Nat.le_trans hS8 hb9.size
  clear bxw8 B8 hS8 hb9 own68 r78 R8 HLT gr9 hS7 hm3
  go_wp2_with (at_builtin; refine wpList_append_at rfl _ _ rfl (w.heap.size + 1) a9 m9 c9 _ rfl own9 a8 8 c8 _ rfl r9 (by omega) hS9 ?_; intro a10 m10 c10 w10 own10 hb10; refine Hid.out ?_)
  refine Lib.hid ?_
  have hm10 : m10 ≤ 532 := by rw [own10.1, List.length_append, ← own9.1]; simp [be8]; omega
  have bxw10 : Hid (EBox w10 w.heap.size _) := bxw9.out.keep hb10 hG
  have B10 := B9.trans (hb10.mono (Nat.le_of_lt hG))
  have hS10 : w.heap.size + 1 ≤ w10.heap.size := Nat.le_trans hS9 hb10.size
  clear bxw9 B9 hS9 hb10 own9 r9 hm9
  have xkind10 := bxw10.out.kind
  simp only at xkind10
  go_wp2_with (at_builtin; refine wpList_append_new rfl _ _ rfl (w.heap.size + 1) a10 m10 c10 _ rfl own10 [_] 1 rfl [kd] (by first | rfl | (simp [bv]; done) | (simp [bv]; omega)) rfl (by omega) hS10 ?_; intro a11 m11 c11 w11 own11 hb11)
  go_ret
  refine ⟨a11, m11, c11, rfl, ?_, B10.trans (hb11.mono (Nat.le_of_lt hG))⟩
  rw [HKL.out]
  exact own11.mono (Nat.le_of_lt hG)
 by_cases hk4c : kd = 4
 ·have HKL : Hid (keyL ⟨vr, (fm : Int), vq, (t : Int), (sq : Int), (kd : Int), vv, row, qual, val⟩ = ((((((ordL row ++ [fm]) ++ [1]) ++ ordL qual) ++ [0]) ++ be8 (9223372036854775807 - t)) ++ be8 (9223372036854775807 - sq)) ++ [kd]) := by
   unfold Hid keyL mark
   have h4 : (kd : Int) = 4 := by omega
   simp [h4]
   omega
  have hkn : ((kd : Int) == 5) = false := by simp; omega
  have hk4 : ((kd : Int) == 4) = true := by simp; omega
  have xkind2 := bxw2.out.kind
  simp only at xkind2
  go_wp2_with (at_builtin; refine wpList_append_new rfl _ _ rfl (w.heap.size + 1) a2 m2 c2 _ rfl own2 [_] 1 rfl [1] (by first | rfl | (simp [bv]; done) | (simp [bv]; omega)) rfl (by omega) hS2 ?_; intro a3 m3 c3 w3 own3 hb3; refine Hid.out ?_)
  refine Lib.hid ?_
  have hm3 : m3 ≤ 516 := by rw [own3.1, List.length_append, ← own2.1]; simp; omega
  have bxw3 : Hid (EBox w3 w.heap.size _) := bxw2.out.keep hb3 hG
  have B3 := B2.trans (hb3.mono (Nat.le_of_lt hG))
  have hS3 : w.heap.size + 1 ≤ w3.heap.size := Nat.le_trans hS2 hb3.size
  clear bxw2 B2 hS2 hb3 own2 hm2
  clear xkind2
  have xvq3 := bxw3.out.vq
  simp only at xvq3
  go_wp2_with fail
  refine (refOrdered_any (HRQ.out.later B3) (by have := HOQ.out.1; omega)).mono ?_
  rintro e4 w4 ⟨a4, m4, c4, rfl, own4, hb4⟩
  have hm4 : m4 ≤ 514 := by rw [own4.1]; exact HOQ.out.1
  have r4 : Rd w4 (.slice a4 m4 c4) _ := own4.rd HOQ.out.2 (by omega)
  have own34 := own3.later hb4
  have bxw4 : Hid (EBox w4 w.heap.size _) := bxw3.out.later hb4
  have B4 := B3.trans (hb4.mono B3.size)
  have hS4 : w.heap.size + 1 ≤ w4.heap.size := Nat.le_trans hS3 hb4.size
  have HL4 : Hid (m4 = (ordL qual).length) := own4.1
  clear bxw3 B3 hS3 hb4 own3 own4 xvq3
  go_wp2_with (at_builtin; refine wpList_append_at rfl _ _ rfl (w.heap.size + 1) a3 m3 c3 _ rfl own34 a4 m4 c4 _ rfl r4 (by omega) hS4 ?_; intro a5 m5 c5 w5 own5 hb5; refine Hid.out ?_)
  refine Lib.hid ?_
  have hm5 : m5 ≤ 1030 := by rw [own5.1, List.length_append, ← own34.1, ← HL4.out]; omega
  have bxw5 : Hid (EBox w5 w.heap.size _) := bxw4.out.keep hb5 hG
  have B5 := B4.trans (hb5.mono (Nat.le_of_lt hG))
  have hS5 : w.heap.size + 1 ≤ w5.heap.size := Nat.le_trans hS4 hb5.size
  clear bxw4 B4 hS4 hb5 own34 r4 hm3 hm4 HL4
  have xkind5 := bxw5.out.kind
  simp only at xkind5
  go_wp2_with (at_builtin; refine wpList_append_new rfl _ _ rfl (w.heap.size + 1) a5 m5 c5 _ rfl own5 [_] 1 rfl [0] (by first | rfl | (simp [bv]; done) | (simp [bv]; omega)) rfl (by omega) hS5 ?_; intro a6 m6 c6 w6 own6 hb6; refine Hid.out ?_)
  refine Lib.hid ?_
  have hm6 : m6 ≤ 1031 := by rw [own6.1, List.length_append, ← own5.1]; simp; omega
  have bxw6 : Hid (EBox w6 w.heap.size _) := bxw5.out.keep hb6 hG
  have B6 := B5.trans (hb6.mono (Nat.le_of_lt hG))
  have hS6 : w.heap.size + 1 ≤ w6.heap.size := Nat.le_trans hS5 hb6.size
  clear bxw5 B5 hS5 hb6 own5 hm5
  clear xkind5
  have xts6 := bxw6.out.ts
  simp only at xts6
  go_wp2_with fail
  refine (refFalling_any t hts _).mono ?_
  rintro e7 w7 ⟨a7, m7, c7, rfl, own7, hb7⟩
  have hm7 : m7 = 8 := own7.1
  subst hm7
  have r7 : Rd w7 (.slice a7 8 c7) _ := own7.rd (be8_bys _) (by omega)
  have own67 := own6.later hb7
  have bxw7 : Hid (EBox w7 w.heap.size _) := bxw6.out.later hb7
  have B7 := B6.trans (hb7.mono B6.size)
  have hS7 : w.heap.size + 1 ≤ w7.heap.size := Nat.le_trans hS6 hb7.size
  clear bxw6 B6 hS6 hb7 own6 own7 xts6
  have xseq7 := bxw7.out.seq
  simp only at xseq7
  go_wp2_with fail
  refine (refFalling_any sq hsq _).mono ?_
  rintro e8 w8 ⟨a8, m8, c8, rfl, own8, hb8⟩
  have hm8 : m8 = 8 := own8.1
  subst hm8
  have r78 := r7.later hb8
  have own68 := own67.later hb8
  have HLT : Hid (∀ g, (Value.slice a6 m6 c6).ownBlock = some g → g < w7.heap.size) := fun g hg => (own67.2.lt g hg).2
  have bxw8 : Hid (EBox w8 w.heap.size _) := bxw7.out.later hb8
  have B8 := B7.trans (hb8.mono B7.size)
  have hS8 : w.heap.size + 1 ≤ w8.heap.size := Nat.le_trans hS7 hb8.size
  have R8 : Hid (Own w8 w7.heap.size (.slice a8 8 c8) 8 (be8 (9223372036854775807 - sq)) ∧ Below w7.heap.size w7 w8) := ⟨own8, hb8⟩
  clear bxw7 B7 hb8 own67 own8 xseq7 r7
  go_wp2_with (at_builtin; refine wpList_append_gr rfl _ _ rfl (w.heap.size + 1) a6 m6 c6 _ rfl own68 a7 8 c7 _ rfl r78 (by omega) hS8 ?_; intro a9 m9 c9 w9 own9 hb9 gr9; refine Hid.out ?_)
  refine Lib.hid ?_
  have hm9 : m9 ≤ 1039 := by rw [own9.1, List.length_append, ← own68.1]; simp [be8]; omega
  have r9 : Rd w9 (.slice a8 8 c8) _ := (R8.out.1.grown gr9 HLT.out).rd (be8_bys _) (by omega)
  have bxw9 : Hid (EBox w9 w.heap.size _) := bxw8.out.keep hb9 hG
  have B9 := B8.trans (hb9.mono (Nat.le_of_lt hG))
  have hS9 : w.heap.size + 1 ≤ w9.heap.size := Nat.le_trans hS8 hb9.size
  clear bxw8 B8 hS8 hb9 own68 r78 R8 HLT gr9 hS7 hm6
  go_wp2_with (at_builtin; refine wpList_append_at rfl _ _ rfl (w.heap.size + 1) a9 m9 c9 _ rfl own9 a8 8 c8 _ rfl r9 (by omega) hS9 ?_; intro a10 m10 c10 w10 own10 hb10; refine Hid.out ?_)
  refine Lib.hid ?_
  have hm10 : m10 ≤ 1047 := by rw [own10.1, List.length_append, ← own9.1]; simp [be8]; omega
  have bxw10 : Hid (EBox w10 w.heap.size _) := bxw9.out.keep hb10 hG
  have B10 := B9.trans (hb10.mono (Nat.le_of_lt hG))
  have hS10 : w.heap.size + 1 ≤ w10.heap.size := Nat.le_trans hS9 hb10.size
  clear bxw9 B9 hS9 hb10 own9 r9 hm9
  have xkind10 := bxw10.out.kind
  simp only at xkind10
  go_wp2_with (at_builtin; refine wpList_append_new rfl _ _ rfl (w.heap.size + 1) a10 m10 c10 _ rfl own10 [_] 1 rfl [kd] (by first | rfl | (simp [bv]; done) | (simp [bv]; omega)) rfl (by omega) hS10 ?_; intro a11 m11 c11 w11 own11 hb11)
  go_ret
  refine ⟨a11, m11, c11, rfl, ?_, B10.trans (hb11.mono (Nat.le_of_lt hG))⟩
  rw [HKL.out]
  exact own11.mono (Nat.le_of_lt hG)
 ·have HKL : Hid (keyL ⟨vr, (fm : Int), vq, (t : Int), (sq : Int), (kd : Int), vv, row, qual, val⟩ = ((((((ordL row ++ [fm]) ++ [1]) ++ ordL qual) ++ [1]) ++ be8 (9223372036854775807 - t)) ++ be8 (9223372036854775807 - sq)) ++ [kd]) := by
   unfold Hid keyL mark
   have h4 : ¬ ((kd : Int) = 4) := by omega
   have h5 : ¬ ((kd : Int) = 5) := by omega
   simp [h4, h5]
  have hkn : ((kd : Int) == 5) = false := by simp; omega
  have hk4 : ((kd : Int) == 4) = false := by simp; omega
  have xkind2 := bxw2.out.kind
  simp only at xkind2
  go_wp2_with (at_builtin; refine wpList_append_new rfl _ _ rfl (w.heap.size + 1) a2 m2 c2 _ rfl own2 [_] 1 rfl [1] (by first | rfl | (simp [bv]; done) | (simp [bv]; omega)) rfl (by omega) hS2 ?_; intro a3 m3 c3 w3 own3 hb3; refine Hid.out ?_)
  refine Lib.hid ?_
  have hm3 : m3 ≤ 516 := by rw [own3.1, List.length_append, ← own2.1]; simp; omega
  have bxw3 : Hid (EBox w3 w.heap.size _) := bxw2.out.keep hb3 hG
  have B3 := B2.trans (hb3.mono (Nat.le_of_lt hG))
  have hS3 : w.heap.size + 1 ≤ w3.heap.size := Nat.le_trans hS2 hb3.size
  clear bxw2 B2 hS2 hb3 own2 hm2
  clear xkind2
  have xvq3 := bxw3.out.vq
  simp only at xvq3
  go_wp2_with fail
  refine (refOrdered_any (HRQ.out.later B3) (by have := HOQ.out.1; omega)).mono ?_
  rintro e4 w4 ⟨a4, m4, c4, rfl, own4, hb4⟩
  have hm4 : m4 ≤ 514 := by rw [own4.1]; exact HOQ.out.1
  have r4 : Rd w4 (.slice a4 m4 c4) _ := own4.rd HOQ.out.2 (by omega)
  have own34 := own3.later hb4
  have bxw4 : Hid (EBox w4 w.heap.size _) := bxw3.out.later hb4
  have B4 := B3.trans (hb4.mono B3.size)
  have hS4 : w.heap.size + 1 ≤ w4.heap.size := Nat.le_trans hS3 hb4.size
  have HL4 : Hid (m4 = (ordL qual).length) := own4.1
  clear bxw3 B3 hS3 hb4 own3 own4 xvq3
  go_wp2_with (at_builtin; refine wpList_append_at rfl _ _ rfl (w.heap.size + 1) a3 m3 c3 _ rfl own34 a4 m4 c4 _ rfl r4 (by omega) hS4 ?_; intro a5 m5 c5 w5 own5 hb5; refine Hid.out ?_)
  refine Lib.hid ?_
  have hm5 : m5 ≤ 1030 := by rw [own5.1, List.length_append, ← own34.1, ← HL4.out]; omega
  have bxw5 : Hid (EBox w5 w.heap.size _) := bxw4.out.keep hb5 hG
  have B5 := B4.trans (hb5.mono (Nat.le_of_lt hG))
  have hS5 : w.heap.size + 1 ≤ w5.heap.size := Nat.le_trans hS4 hb5.size
  clear bxw4 B4 hS4 hb5 own34 r4 hm3 hm4 HL4
  have xkind5 := bxw5.out.kind
  simp only at xkind5
  go_wp2_with (at_builtin; refine wpList_append_new rfl _ _ rfl (w.heap.size + 1) a5 m5 c5 _ rfl own5 [_] 1 rfl [1] (by first | rfl | (simp [bv]; done) | (simp [bv]; omega)) rfl (by omega) hS5 ?_; intro a6 m6 c6 w6 own6 hb6; refine Hid.out ?_)
  refine Lib.hid ?_
  have hm6 : m6 ≤ 1031 := by rw [own6.1, List.length_append, ← own5.1]; simp; omega
  have bxw6 : Hid (EBox w6 w.heap.size _) := bxw5.out.keep hb6 hG
  have B6 := B5.trans (hb6.mono (Nat.le_of_lt hG))
  have hS6 : w.heap.size + 1 ≤ w6.heap.size := Nat.le_trans hS5 hb6.size
  clear bxw5 B5 hS5 hb6 own5 hm5
  clear xkind5
  have xts6 := bxw6.out.ts
  simp only at xts6
  go_wp2_with fail
  refine (refFalling_any t hts _).mono ?_
  rintro e7 w7 ⟨a7, m7, c7, rfl, own7, hb7⟩
  have hm7 : m7 = 8 := own7.1
  subst hm7
  have r7 : Rd w7 (.slice a7 8 c7) _ := own7.rd (be8_bys _) (by omega)
  have own67 := own6.later hb7
  have bxw7 : Hid (EBox w7 w.heap.size _) := bxw6.out.later hb7
  have B7 := B6.trans (hb7.mono B6.size)
  have hS7 : w.heap.size + 1 ≤ w7.heap.size := Nat.le_trans hS6 hb7.size
  clear bxw6 B6 hS6 hb7 own6 own7 xts6
  have xseq7 := bxw7.out.seq
  simp only at xseq7
  go_wp2_with fail
  refine (refFalling_any sq hsq _).mono ?_
  rintro e8 w8 ⟨a8, m8, c8, rfl, own8, hb8⟩
  have hm8 : m8 = 8 := own8.1
  subst hm8
  have r78 := r7.later hb8
  have own68 := own67.later hb8
  have HLT : Hid (∀ g, (Value.slice a6 m6 c6).ownBlock = some g → g < w7.heap.size) := fun g hg => (own67.2.lt g hg).2
  have bxw8 : Hid (EBox w8 w.heap.size _) := bxw7.out.later hb8
  have B8 := B7.trans (hb8.mono B7.size)
  have hS8 : w.heap.size + 1 ≤ w8.heap.size := Nat.le_trans hS7 hb8.size
  have R8 : Hid (Own w8 w7.heap.size (.slice a8 8 c8) 8 (be8 (9223372036854775807 - sq)) ∧ Below w7.heap.size w7 w8) := ⟨own8, hb8⟩
  clear bxw7 B7 hb8 own67 own8 xseq7 r7
  go_wp2_with (at_builtin; refine wpList_append_gr rfl _ _ rfl (w.heap.size + 1) a6 m6 c6 _ rfl own68 a7 8 c7 _ rfl r78 (by omega) hS8 ?_; intro a9 m9 c9 w9 own9 hb9 gr9; refine Hid.out ?_)
  refine Lib.hid ?_
  have hm9 : m9 ≤ 1039 := by rw [own9.1, List.length_append, ← own68.1]; simp [be8]; omega
  have r9 : Rd w9 (.slice a8 8 c8) _ := (R8.out.1.grown gr9 HLT.out).rd (be8_bys _) (by omega)
  have bxw9 : Hid (EBox w9 w.heap.size _) := bxw8.out.keep hb9 hG
  have B9 := B8.trans (hb9.mono (Nat.le_of_lt hG))
  have hS9 : w.heap.size + 1 ≤ w9.heap.size := Nat.le_trans hS8 hb9.size
  clear bxw8 B8 hS8 hb9 own68 r78 R8 HLT gr9 hS7 hm6
  go_wp2_with (at_builtin; refine wpList_append_at rfl _ _ rfl (w.heap.size + 1) a9 m9 c9 _ rfl own9 a8 8 c8 _ rfl r9 (by omega) hS9 ?_; intro a10 m10 c10 w10 own10 hb10; refine Hid.out ?_)
  refine Lib.hid ?_
  have hm10 : m10 ≤ 1047 := by rw [own10.1, List.length_append, ← own9.1]; simp [be8]; omega
  have bxw10 : Hid (EBox w10 w.heap.size _) := bxw9.out.keep hb10 hG
  have B10 := B9.trans (hb10.mono (Nat.le_of_lt hG))
  have hS10 : w.heap.size + 1 ≤ w10.heap.size := Nat.le_trans hS9 hb10.size
  clear bxw9 B9 hS9 hb10 own9 r9 hm9
  have xkind10 := bxw10.out.kind
  simp only at xkind10
  go_wp2_with (at_builtin; refine wpList_append_new rfl _ _ rfl (w.heap.size + 1) a10 m10 c10 _ rfl own10 [_] 1 rfl [kd] (by first | rfl | (simp [bv]; done) | (simp [bv]; omega)) rfl (by omega) hS10 ?_; intro a11 m11 c11 w11 own11 hb11)
  go_ret
  refine ⟨a11, m11, c11, rfl, ?_, B10.trans (hb11.mono (Nat.le_of_lt hG))⟩
  rw [HKL.out]
  exact own11.mono (Nat.le_of_lt hG)

set_option maxRecDepth 100000 in
set_option maxHeartbeats 4000000 in
theorem refKey_ok {e : EntD} {w : World} (hok : EntD.Ok w e) (hc : checkS e = 0) :
  Calls Tryz.prog 35 #[.agg e.cells] w fun r w' => ∃ a m c, r = .returned (.tuple #[.slice a m c, .int .i64 0]) ∧ Own w' w.heap.size (.slice a m c) m (keyL e) ∧ Below w.heap.size w w' := by
 have A1 := (Below.refl w.heap.size w).alloc (Nat.le_refl _) (.cells e.cells 40)
 have bx1 : Hid (EBox (w.alloc (.cells e.cells 40)) w.heap.size e) := EBox.new w e
 have HK : Hid (EntD.Ok w e) := hok
 have c1 := refCheck_any (hok.later A1)
 rw [hc] at c1
 have HC : Hid (Calls _ _ _ _ _) := c1
 have HC2 : Hid (∀ w', EntD.Ok w' e → Calls Tryz.prog 78 #[.agg e.cells] w' fun r w'' => ∃ a m c, r = .returned (.slice a m c) ∧ Own w'' w'.heap.size (.slice a m c) m (keyL e) ∧ Below w'.heap.size w' w'') := fun w' h => refkey_any h hc
 clear hok c1 hc
 simp only [EntD.cells] at *
 go_enter Tryz.func35, Tryz.ntmps35
 go_wp2_with fail
 refine HC.out.mono ?_
 rintro e1 w1 ⟨rfl, hb1⟩
 have B1 := A1.trans (hb1.mono A1.size)
 have bx2 := bx1.out.later hb1
 have x0 := bx2.vr
 have x1 := bx2.fam
 have x2 := bx2.vq
 have x3 := bx2.ts
 have x4 := bx2.seq
 have x5 := bx2.kind
 have x6 := bx2.vv
 clear bx1 hb1 bx2 A1
 go_wp2_with fail
 refine (HC2.out _ (HK.out.later B1)).mono ?_
 rintro e2 w2 ⟨a2, m2, c2, rfl, own2, hb2⟩
 go_wp2
 go_ret2
 exact ⟨a2, m2, c2, rfl, own2.mono B1.size, B1.trans (hb2.mono B1.size)⟩

end Go.Proofs.YtchebhafabhabaaGreatDoor

namespace Go.Proofs.YtchebhafabhabaaGreatDoor
open Go.RowKit
set_option linter.unusedVariables false

def UnpackedAs (w w' : World) (r : Ending) (K V : List Nat) (E1 P2 E2 : Nat) : Prop :=
 Below w.heap.size w w' ∧
 ((∃ D : EntD, E1 = 0 ∧ E2 = 0 ∧ checkS D = 0 ∧ D.val = V ∧ keyL D = K ∧ Bys D.row ∧ Bys D.qual ∧ r = .returned (.tuple #[.agg D.cells, .int .i64 (P2 : Int), .int .i64 0]) ∧ EntD.Ok w' D) ∨
  (∃ E : Nat, E ≠ 0 ∧ r = .returned (.tuple #[.agg #[.slice none 0 0, .int .i64 0, .slice none 0 0, .int .i64 0, .int .i64 0, .int .i64 0, .slice none 0 0], .int .i64 0, .int .i64 (E : Int)]) ∧ ¬ (E1 = 0 ∧ E2 = 0 ∧ ∃ D : EntD, checkS D = 0 ∧ D.val = V ∧ keyL D = K)))

end Go.Proofs.YtchebhafabhabaaGreatDoor

namespace Go.Proofs.YtchebhafabhabaaGreatDoor
open Go.RowKit
set_option linter.unusedVariables false

end Go.Proofs.YtchebhafabhabaaGreatDoor

namespace Go.Proofs.YtchebhafabhabaaGreatDoor
open Go.RowKit
set_option linter.unusedVariables false

def LaidE (w : World) (B : Nat) (D : EntD) : Prop := Laid w B D.vr D.row ∧ Laid w B D.vq D.qual ∧ Laid w B D.vv D.val
def EntD.cut (e : EntD) : EntD := { e with row := e.row.take 5000, qual := e.qual.take 5000, val := e.val.take 5000 }
def EntD.Fine (e : EntD) : Prop := (Bys e.row ∧ e.row.length ≤ 5000) ∧ (Bys e.qual ∧ e.qual.length ≤ 5000) ∧ (Bys e.val ∧ e.val.length ≤ 5000)
open Classical in
noncomputable def keyA (e : EntD) : List Nat := if checkS e = 0 then keyL e else []
open Classical in
noncomputable def packA (e : EntD) : List Nat := if checkS e = 0 then packL e else []
end Go.Proofs.YtchebhafabhabaaGreatDoor
