import Derived.Test.YtdkolihakmnpiaaDoorK07
namespace Go.Proofs.YtdkolihakmnpiaaDoor
open Go.RowKit
set_option linter.unusedVariables false

theorem one_trip (x : Nat) (pre rest : List Nat) : oneR (pre ++ ([x] ++ rest)) pre.length = (x, pre.length + 1, false) := by
  rw [oneR_in _ _ (by simp)]
  simp [List.getD]
theorem ord_at {bs pre rest l : List Nat} {k : Nat} (h : bs = pre ++ (ordL l ++ rest)) (hk : k = pre.length) : ordR bs k = (l, k + (ordL l).length, 0) := by
  subst h hk; exact ord_trip _ _ _
theorem fall_at' {bs pre rest : List Nat} {k n : Nat} (hn : n < 9223372036854775808) (h : bs = pre ++ (be8 (9223372036854775807 - n) ++ rest)) (hk : k = pre.length) : fallR bs k = (n, k + 8, 0) := by
  subst h hk; exact fall_trip n hn _ _
theorem one_at' {bs pre rest : List Nat} {k x : Nat} (h : bs = pre ++ ([x] ++ rest)) (hk : k = pre.length) : oneR bs k = (x, k + 1, false) := by
  subst h hk; exact one_trip _ _ _

theorem reads_plain {D : EntD} (hc : checkS D = 0) (hk : D.kind ≠ 5) : ∃ p1 p2 p3 p4 p5 p6 p7, ordR (keyL D) 0 = (D.row, p1, 0) ∧ oneR (keyL D) p1 = (D.fam.toNat, p2, false) ∧ oneR (keyL D) p2 = (1, p3, false) ∧ ordR (keyL D) p3 = (D.qual, p4, 0) ∧ oneR (keyL D) p4 = (mark D.kind 4, p5, false) ∧ fallR (keyL D) p5 = (D.ts.toNat, p6, 0) ∧ fallR (keyL D) p6 = (D.seq.toNat, p7, 0) ∧ oneR (keyL D) p7 = (D.kind.toNat, (keyL D).length, false) := by
  obtain ⟨_, f, _, _, t, s, k, _⟩ := check_facts hc
  have e := keyL_parts D
  rw [if_neg hk] at e
  have m5 : mark D.kind 5 = 1 := by simp [mark, hk]
  rw [m5] at e
  generalize keyL D = bs at e
  have q1 := ord_at (bs := bs) (l := D.row) (k := 0) (pre := []) (rest := ([D.fam.toNat] ++ ([1] ++ (ordL D.qual ++ ([mark D.kind 4] ++ (be8 (9223372036854775807 - D.ts.toNat) ++ (be8 (9223372036854775807 - D.seq.toNat) ++ ([D.kind.toNat] ++ [])))))))) (by rw [e]; simp) (by first | (simp; done) | (simp; omega) | (simp [be8]; done) | (simp [be8]; omega))
  have q2 := one_at' (bs := bs) (x := D.fam.toNat) (k := 0 + (ordL D.row).length) (pre := ordL D.row) (rest := ([1] ++ (ordL D.qual ++ ([mark D.kind 4] ++ (be8 (9223372036854775807 - D.ts.toNat) ++ (be8 (9223372036854775807 - D.seq.toNat) ++ ([D.kind.toNat] ++ []))))))) (by rw [e]; simp) (by first | (simp; done) | (simp; omega) | (simp [be8]; done) | (simp [be8]; omega))
  have q3 := one_at' (bs := bs) (x := 1) (k := 0 + (ordL D.row).length + 1) (pre := ordL D.row ++ [D.fam.toNat]) (rest := (ordL D.qual ++ ([mark D.kind 4] ++ (be8 (9223372036854775807 - D.ts.toNat) ++ (be8 (9223372036854775807 - D.seq.toNat) ++ ([D.kind.toNat] ++ [])))))) (by rw [e]; simp) (by first | (simp; done) | (simp; omega) | (simp [be8]; done) | (simp [be8]; omega))
  have q4 := ord_at (bs := bs) (l := D.qual) (k := 0 + (ordL D.row).length + 1 + 1) (pre := ordL D.row ++ [D.fam.toNat] ++ [1]) (rest := ([mark D.kind 4] ++ (be8 (9223372036854775807 - D.ts.toNat) ++ (be8 (9223372036854775807 - D.seq.toNat) ++ ([D.kind.toNat] ++ []))))) (by rw [e]; simp) (by first | (simp; done) | (simp; omega) | (simp [be8]; done) | (simp [be8]; omega))
  have q5 := one_at' (bs := bs) (x := mark D.kind 4) (k := 0 + (ordL D.row).length + 1 + 1 + (ordL D.qual).length) (pre := ordL D.row ++ [D.fam.toNat] ++ [1] ++ ordL D.qual) (rest := (be8 (9223372036854775807 - D.ts.toNat) ++ (be8 (9223372036854775807 - D.seq.toNat) ++ ([D.kind.toNat] ++ [])))) (by rw [e]; simp) (by first | (simp; done) | (simp; omega) | (simp [be8]; done) | (simp [be8]; omega))
  have q6 := fall_at' (bs := bs) (n := D.ts.toNat) (k := 0 + (ordL D.row).length + 1 + 1 + (ordL D.qual).length + 1) (pre := ordL D.row ++ [D.fam.toNat] ++ [1] ++ ordL D.qual ++ [mark D.kind 4]) (rest := (be8 (9223372036854775807 - D.seq.toNat) ++ ([D.kind.toNat] ++ []))) (by omega) (by rw [e]; simp) (by first | (simp; done) | (simp; omega) | (simp [be8]; done) | (simp [be8]; omega))
  have q7 := fall_at' (bs := bs) (n := D.seq.toNat) (k := 0 + (ordL D.row).length + 1 + 1 + (ordL D.qual).length + 1 + 8) (pre := ordL D.row ++ [D.fam.toNat] ++ [1] ++ ordL D.qual ++ [mark D.kind 4] ++ be8 (9223372036854775807 - D.ts.toNat)) (rest := ([D.kind.toNat] ++ [])) (by omega) (by rw [e]; simp) (by first | (simp; done) | (simp; omega) | (simp [be8]; done) | (simp [be8]; omega))
  have q8 := one_at' (bs := bs) (x := D.kind.toNat) (k := 0 + (ordL D.row).length + 1 + 1 + (ordL D.qual).length + 1 + 8 + 8) (pre := ordL D.row ++ [D.fam.toNat] ++ [1] ++ ordL D.qual ++ [mark D.kind 4] ++ be8 (9223372036854775807 - D.ts.toNat) ++ be8 (9223372036854775807 - D.seq.toNat)) (rest := []) (by rw [e]; simp) (by first | (simp; done) | (simp; omega) | (simp [be8]; done) | (simp [be8]; omega))
  have l8 : 0 + (ordL D.row).length + 1 + 1 + (ordL D.qual).length + 1 + 8 + 8 + 1 = bs.length := by rw [e]; first | (simp [be8]; done) | (simp [be8]; omega)
  rw [l8] at q8
  exact ⟨_, _, _, _, _, _, _, q1, q2, q3, q4, q5, q6, q7, q8⟩
theorem reads_fam {D : EntD} (hc : checkS D = 0) (hk : D.kind = 5) : ∃ p1 p2 p3 p6 p7, ordR (keyL D) 0 = (D.row, p1, 0) ∧ oneR (keyL D) p1 = (D.fam.toNat, p2, false) ∧ oneR (keyL D) p2 = (0, p3, false) ∧ fallR (keyL D) p3 = (D.ts.toNat, p6, 0) ∧ fallR (keyL D) p6 = (D.seq.toNat, p7, 0) ∧ oneR (keyL D) p7 = (D.kind.toNat, (keyL D).length, false) := by
  obtain ⟨_, f, _, _, t, s, k, _⟩ := check_facts hc
  have e := keyL_parts D
  rw [if_pos hk] at e
  have m5 : mark D.kind 5 = 0 := by simp [mark, hk]
  rw [m5] at e
  generalize keyL D = bs at e
  have q1 := ord_at (bs := bs) (l := D.row) (k := 0) (pre := []) (rest := ([D.fam.toNat] ++ ([0] ++ (be8 (9223372036854775807 - D.ts.toNat) ++ (be8 (9223372036854775807 - D.seq.toNat) ++ ([D.kind.toNat] ++ [])))))) (by rw [e]; simp) (by first | (simp; done) | (simp; omega) | (simp [be8]; done) | (simp [be8]; omega))
  have q2 := one_at' (bs := bs) (x := D.fam.toNat) (k := 0 + (ordL D.row).length) (pre := ordL D.row) (rest := ([0] ++ (be8 (9223372036854775807 - D.ts.toNat) ++ (be8 (9223372036854775807 - D.seq.toNat) ++ ([D.kind.toNat] ++ []))))) (by rw [e]; simp) (by first | (simp; done) | (simp; omega) | (simp [be8]; done) | (simp [be8]; omega))
  have q3 := one_at' (bs := bs) (x := 0) (k := 0 + (ordL D.row).length + 1) (pre := ordL D.row ++ [D.fam.toNat]) (rest := (be8 (9223372036854775807 - D.ts.toNat) ++ (be8 (9223372036854775807 - D.seq.toNat) ++ ([D.kind.toNat] ++ [])))) (by rw [e]; simp) (by first | (simp; done) | (simp; omega) | (simp [be8]; done) | (simp [be8]; omega))
  have q6 := fall_at' (bs := bs) (n := D.ts.toNat) (k := 0 + (ordL D.row).length + 1 + 1) (pre := ordL D.row ++ [D.fam.toNat] ++ [0]) (rest := (be8 (9223372036854775807 - D.seq.toNat) ++ ([D.kind.toNat] ++ []))) (by omega) (by rw [e]; simp) (by first | (simp; done) | (simp; omega) | (simp [be8]; done) | (simp [be8]; omega))
  have q7 := fall_at' (bs := bs) (n := D.seq.toNat) (k := 0 + (ordL D.row).length + 1 + 1 + 8) (pre := ordL D.row ++ [D.fam.toNat] ++ [0] ++ be8 (9223372036854775807 - D.ts.toNat)) (rest := ([D.kind.toNat] ++ [])) (by omega) (by rw [e]; simp) (by first | (simp; done) | (simp; omega) | (simp [be8]; done) | (simp [be8]; omega))
  have q8 := one_at' (bs := bs) (x := D.kind.toNat) (k := 0 + (ordL D.row).length + 1 + 1 + 8 + 8) (pre := ordL D.row ++ [D.fam.toNat] ++ [0] ++ be8 (9223372036854775807 - D.ts.toNat) ++ be8 (9223372036854775807 - D.seq.toNat)) (rest := []) (by rw [e]; simp) (by first | (simp; done) | (simp; omega) | (simp [be8]; done) | (simp [be8]; omega))
  have l8 : 0 + (ordL D.row).length + 1 + 1 + 8 + 8 + 1 = bs.length := by rw [e]; first | (simp [be8]; done) | (simp [be8]; omega)
  rw [l8] at q8
  exact ⟨_, _, _, _, _, q1, q2, q3, q6, q7, q8⟩

theorem seg_join {bs : List Nat} {i j k : Nat} (h1 : i ≤ j) (h2 : j ≤ k) (h3 : k ≤ bs.length) : (bs.take j).drop i ++ (bs.take k).drop j = (bs.take k).drop i := by
  apply List.ext_getElem?
  intro n
  by_cases hn : n < j - i
  · rw [List.getElem?_append_left (by simp; omega)]
    rw [List.getElem?_drop, List.getElem?_drop, List.getElem?_take_of_lt (by omega), List.getElem?_take_of_lt (by omega)]
  · rw [List.getElem?_append_right (by simp; omega), List.getElem?_drop, List.getElem?_drop]
    congr 1
    simp
    omega
theorem one_back {bs : List Nat} {k x P : Nat} (hk : k ≤ bs.length) (h : oneR bs k = (x, P, false)) : [x] = (bs.take P).drop k ∧ k ≤ P ∧ P ≤ bs.length := by
  unfold oneR at h
  split at h
  · simp at h
  · simp only [Prod.mk.injEq] at h
    obtain ⟨rfl, rfl, _⟩ := h
    have hlt : k < bs.length := by omega
    refine ⟨?_, by omega, by omega⟩
    rw [List.drop_take, show k + 1 - k = 1 by omega, drop_cons bs k hlt]
    rfl
theorem fall_back {bs : List Nat} {k V P : Nat} (hb : Bys bs) (h : fallR bs k = (V, P, 0)) : be8 (9223372036854775807 - V) = (bs.take P).drop k ∧ k ≤ P ∧ P ≤ bs.length := by
  unfold fallR at h
  split at h
  · rename_i h1
    simp only [Prod.mk.injEq] at h
    exact absurd h.2.2 h1
  · rename_i h1
    simp only [Prod.mk.injEq] at h
    obtain ⟨h2, h3, _⟩ := h
    have e : riseR bs k = ((riseR bs k).1, P, 0) := by
      rw [← h3]
      ext
      · rfl
      · rfl
      · simpa using h1
    obtain ⟨r1, r2, r3, r4⟩ := rise_back hb e
    refine ⟨?_, by omega, r3⟩
    rw [← r1]
    congr 1
    omega

theorem back_plain {bs row qual : List Nat} {p1 p2 p3 p4 p5 p6 p7 p8 fam fm cm ts sq kd : Nat} (hb : Bys bs)
    (q1 : ordR bs 0 = (row, p1, 0)) (q2 : oneR bs p1 = (fam, p2, false)) (q3 : oneR bs p2 = (fm, p3, false)) (hfm : fm ≠ 0) (q4 : ordR bs p3 = (qual, p4, 0)) (q5 : oneR bs p4 = (cm, p5, false))
    (q6 : fallR bs p5 = (ts, p6, 0)) (q7 : fallR bs p6 = (sq, p7, 0)) (q8 : oneR bs p7 = (kd, p8, false)) (m5 : fm = mark kd 5) (m4 : cm = mark kd 4) (hp : p8 = bs.length) (vr vq vv : Value) (val : List Nat) :
    keyL ⟨vr, (fam : Int), vq, (ts : Int), (sq : Int), (kd : Int), vv, row, qual, val⟩ = bs := by
  obtain ⟨r1, s1, t1⟩ := ord_back (Nat.zero_le _) q1
  obtain ⟨r2, s2, t2⟩ := one_back t1 q2
  obtain ⟨r3, s3, t3⟩ := one_back t2 q3
  obtain ⟨r4, s4, t4⟩ := ord_back t3 q4
  obtain ⟨r5, s5, t5⟩ := one_back t4 q5
  obtain ⟨r6, s6, t6⟩ := fall_back hb q6
  obtain ⟨r7, s7, t7⟩ := fall_back hb q7
  obtain ⟨r8, s8, t8⟩ := one_back t7 q8
  have hk : ¬ ((kd : Int) = 5) := by
    intro h
    apply hfm
    rw [m5]
    simp [mark, h]
  rw [keyL_parts]
  simp only [Int.toNat_natCast]
  rw [if_neg hk, ← m5, ← m4, r1, r2, r3, r4, r5, r6, r7, r8, List.append_nil, List.append_assoc]
  rw [seg_join s7 s8 t8, seg_join s6 (by omega) t8, seg_join s5 (by omega) t8, seg_join (by omega) (by omega) t8, seg_join s3 (by omega) t8, seg_join s2 (by omega) t8, seg_join (by omega) (by omega) t8]
  rw [hp]
  simp
theorem back_fam {bs row : List Nat} {p1 p2 p3 p6 p7 p8 fam ts sq kd : Nat} (hb : Bys bs)
    (q1 : ordR bs 0 = (row, p1, 0)) (q2 : oneR bs p1 = (fam, p2, false)) (q3 : oneR bs p2 = (0, p3, false))
    (q6 : fallR bs p3 = (ts, p6, 0)) (q7 : fallR bs p6 = (sq, p7, 0)) (q8 : oneR bs p7 = (kd, p8, false)) (m5 : 0 = mark kd 5) (hp : p8 = bs.length) (vr vq vv : Value) (val : List Nat) :
    keyL ⟨vr, (fam : Int), vq, (ts : Int), (sq : Int), (kd : Int), vv, row, [], val⟩ = bs := by
  obtain ⟨r1, s1, t1⟩ := ord_back (Nat.zero_le _) q1
  obtain ⟨r2, s2, t2⟩ := one_back t1 q2
  obtain ⟨r3, s3, t3⟩ := one_back t2 q3
  obtain ⟨r6, s6, t6⟩ := fall_back hb q6
  obtain ⟨r7, s7, t7⟩ := fall_back hb q7
  obtain ⟨r8, s8, t8⟩ := one_back t7 q8
  have hk : (kd : Int) = 5 := by
    by_cases h : (kd : Int) = 5
    · exact h
    · simp [mark, h] at m5
  rw [keyL_parts]
  simp only [Int.toNat_natCast]
  rw [if_pos hk, ← m5, r1, r2, r3, r6, r7, r8, List.append_nil, List.nil_append]
  rw [seg_join s7 s8 t8, seg_join s6 (by omega) t8, seg_join s3 (by omega) t8, seg_join s2 (by omega) t8, seg_join (by omega) (by omega) t8]
  rw [hp]
  simp

end Go.Proofs.YtdkolihakmnpiaaDoor

namespace Go.Proofs.YtdkolihakmnpiaaDoor
open Go.RowKit
set_option linter.unusedVariables false

theorem rord_ok : ∀ (m : Nat) (l acc : List Nat) (i : Nat), l.length ≤ m → Bys l → Bys acc → Bys (rord l acc i).1 ∧ (rord l acc i).1.length ≤ acc.length + l.length := by
  intro m
  induction m with
  | zero =>
    intro l acc i hl hb ha
    obtain rfl : l = [] := List.eq_nil_of_length_eq_zero (by omega)
    rw [rord_nil]
    exact ⟨fun x hx => by simp at hx, by simp⟩
  | succ m ih =>
    intro l acc i hl hb ha
    cases l with
    | nil => rw [rord_nil]; exact ⟨fun x hx => by simp at hx, by simp⟩
    | cons c r =>
      by_cases hc : c = 0
      · subst hc
        cases r with
        | nil => exact ⟨fun x hx => by simp [rord] at hx, by simp [rord]⟩
        | cons d r =>
          rw [rord_zero]
          split
          · exact ⟨ha, by simp⟩
          · split
            · obtain ⟨h1, h2⟩ := ih r (acc ++ [0]) (i + 2) (by simp at hl; omega) (fun x hx => hb x (by simp [hx])) (ha.app (fun x hx => by simp at hx; omega))
              exact ⟨h1, by simp at h2 ⊢; omega⟩
            · exact ⟨fun x hx => by simp at hx, by simp⟩
      · rw [rord_step _ _ _ _ hc]
        obtain ⟨h1, h2⟩ := ih r (acc ++ [c]) (i + 1) (by simp at hl; omega) (fun x hx => hb x (by simp [hx])) (ha.app (fun x hx => by simp at hx; subst hx; exact hb _ (by simp)))
        exact ⟨h1, by simp at h2 ⊢; omega⟩
theorem ordR_ok (bs : List Nat) (k : Nat) (hb : Bys bs) : Bys (ordR bs k).1 ∧ (ordR bs k).1.length ≤ bs.length := by
  obtain ⟨h1, h2⟩ := rord_ok _ (bs.drop k) [] 0 (Nat.le_refl _) (fun x hx => hb x (List.mem_of_mem_drop hx)) (fun x hx => by simp at hx)
  exact ⟨h1, by have : (ordR bs k).1 = (rord (bs.drop k) [] 0).1 := rfl; rw [this]; simp at h2; omega⟩

end Go.Proofs.YtdkolihakmnpiaaDoor

namespace Go.Proofs.YtdkolihakmnpiaaDoor
open Go.RowKit
set_option linter.unusedVariables false

def IsKey (bs : List Nat) : Prop := ∃ D : EntD, checkS D = 0 ∧ D.val = [] ∧ keyL D = bs
theorem checkS_eq {D : EntD} (hc : checkS D = 0) (hv : D.val = []) (a b c : Value) : checkS ⟨a, ((D.fam.toNat : Nat) : Int), b, ((D.ts.toNat : Nat) : Int), ((D.seq.toNat : Nat) : Int), ((D.kind.toNat : Nat) : Int), c, D.row, D.qual, []⟩ = 0 := by
  obtain ⟨_, f, _, _, t, s, k, _⟩ := check_facts hc
  have e : checkS ⟨a, ((D.fam.toNat : Nat) : Int), b, ((D.ts.toNat : Nat) : Int), ((D.seq.toNat : Nat) : Int), ((D.kind.toNat : Nat) : Int), c, D.row, D.qual, []⟩ = checkS D := by
    unfold checkS
    simp only [Int.toNat_of_nonneg f.1, Int.toNat_of_nonneg (show 0 ≤ D.ts by omega), Int.toNat_of_nonneg s.1, Int.toNat_of_nonneg (show 0 ≤ D.kind by omega), hv]
  rw [e, hc]

theorem mark_toNat {k : Int} (h : 0 ≤ k) (a : Int) : mark ((k.toNat : Nat) : Int) a = mark k a := by rw [Int.toNat_of_nonneg h]
def ParsedAs (w w' : World) (r : Ending) (bs : List Nat) : Prop :=
  Below w.heap.size w w' ∧
  ((∃ D : EntD, checkS D = 0 ∧ D.val = [] ∧ keyL D = bs ∧ Bys D.row ∧ Bys D.qual ∧ D.vv = .slice none 0 0 ∧ r = .returned (.tuple #[.agg D.cells, .int .i64 0]) ∧ Own w' w.heap.size D.vr D.row.length D.row ∧ ∃ B, w.heap.size ≤ B ∧ Own w' B D.vq D.qual.length D.qual ∧ ∀ k, D.vr.ownBlock = some k → k < B) ∨
   (¬ IsKey bs ∧ r = .returned (.tuple #[.agg #[.slice none 0 0, .int .i64 0, .slice none 0 0, .int .i64 0, .int .i64 0, .int .i64 0, .slice none 0 0], .int .i64 27])))

theorem parse_any {w : World} {m c : Nat} {a : Option Addr} {bs : List Nat} (hr : Rd w (.slice a m c) bs) (h47 : bs.length ≤ 140737488355328) :
    Calls Tryd.prog 64 #[.slice a m c] w fun e w' => ParsedAs w w' e bs := by
  have hm : m = bs.length := (rd_lens hr).1
  obtain ⟨⟨row, p1, E1⟩, q1⟩ : ∃ x, ordR bs 0 = x := ⟨_, rfl⟩
  obtain ⟨⟨fam, p2, b2⟩, q2⟩ : ∃ x, oneR bs p1 = x := ⟨_, rfl⟩
  obtain ⟨⟨fm, p3, b3⟩, q3⟩ : ∃ x, oneR bs p2 = x := ⟨_, rfl⟩
  have hbr : Bys row ∧ row.length ≤ 281474976710656 := by
    have := ordR_ok bs 0 hr.1
    rw [q1] at this
    exact ⟨this.1, by have := this.2; simp only at this; omega⟩
  by_cases hfm : fm = 0
  · subst hfm
    obtain ⟨⟨ts, p6, E6⟩, q6⟩ : ∃ x, fallR bs p3 = x := ⟨_, rfl⟩
    obtain ⟨⟨sq, p7, E7⟩, q7⟩ : ∃ x, fallR bs p6 = x := ⟨_, rfl⟩
    obtain ⟨⟨kd, p8, b8⟩, q8⟩ : ∃ x, oneR bs p7 = x := ⟨_, rfl⟩
    refine (parse_read (row := row) (qual := []) (fam := fam) (ts := ts) (sq := sq) (kd := kd) (p := p8) hr hbr ⟨by intro x hx; simp at hx, by simp⟩ (fun W g rb rd => entry_fam rb rd h47 q1 q2 q3 q6 q7 q8)).mono ?_
    rintro e w' ⟨hbad, hgood, hb⟩
    refine ⟨hb, ?_⟩
    by_cases G : (E1 = 0 ∧ b2 = false ∧ b3 = false ∧ E6 = 0 ∧ E7 = 0 ∧ b8 = false ∧ 0 = mark kd 5 ∧ 1 = mark kd 4) ∧ p8 = m ∧ checkS ⟨.slice none 0 0, fam, .slice none 0 0, ts, sq, kd, .slice none 0 0, row, [], []⟩ = 0
    · obtain ⟨vr, vq, he, o1, B, hB, o2, hlt⟩ := hgood G
      obtain ⟨⟨rfl, rfl, rfl, rfl, rfl, rfl, g7, _⟩, g9, g10⟩ := G
      refine .inl ⟨⟨vr, fam, vq, ts, sq, kd, .slice none 0 0, row, [], []⟩, g10, rfl, ?_, hbr.1, by intro x hx; simp at hx, rfl, he, o1, B, hB, o2, hlt⟩
      exact back_fam hr.1 q1 q2 q3 q6 q7 q8 g7 (by omega) _ _ _ _
    · refine .inr ⟨?_, hbad G⟩
      rintro ⟨D, hc, hv, hk⟩
      apply G
      by_cases k5 : D.kind = 5
      · obtain ⟨u1, u2, u3, u6, u7, r1, r2, r3, r6, r7, r8⟩ := reads_fam hc k5
        rw [hk] at r1 r2 r3 r6 r7 r8
        rw [q1] at r1
        simp only [Prod.mk.injEq] at r1
        obtain ⟨rfl, rfl, rfl⟩ := r1
        rw [q2] at r2
        simp only [Prod.mk.injEq] at r2
        obtain ⟨rfl, rfl, rfl⟩ := r2
        rw [q3] at r3
        simp only [Prod.mk.injEq] at r3
        obtain ⟨_, rfl, rfl⟩ := r3
        rw [q6] at r6
        simp only [Prod.mk.injEq] at r6
        obtain ⟨rfl, rfl, rfl⟩ := r6
        rw [q7] at r7
        simp only [Prod.mk.injEq] at r7
        obtain ⟨rfl, rfl, rfl⟩ := r7
        rw [q8] at r8
        simp only [Prod.mk.injEq] at r8
        obtain ⟨rfl, rfl, rfl⟩ := r8
        have hq := (check_facts hc).2.2.2.1 k5
        have hcs := checkS_eq hc hv (.slice none 0 0) (.slice none 0 0) (.slice none 0 0)
        rw [hq] at hcs
        exact ⟨⟨rfl, rfl, rfl, rfl, rfl, rfl, by simp [mark, k5], by simp [mark, k5]⟩, hm.symm, hcs⟩
      · obtain ⟨u1, u2, u3, u4, u5, u6, u7, r1, r2, r3, _⟩ := reads_plain hc k5
        rw [hk] at r1 r2 r3
        rw [q1] at r1
        simp only [Prod.mk.injEq] at r1
        obtain ⟨rfl, rfl, rfl⟩ := r1
        rw [q2] at r2
        simp only [Prod.mk.injEq] at r2
        obtain ⟨rfl, rfl, rfl⟩ := r2
        rw [q3] at r3
        simp at r3
  · obtain ⟨⟨qual, p4, E4⟩, q4⟩ : ∃ x, ordR bs p3 = x := ⟨_, rfl⟩
    obtain ⟨⟨cm, p5, b5⟩, q5⟩ : ∃ x, oneR bs p4 = x := ⟨_, rfl⟩
    obtain ⟨⟨ts, p6, E6⟩, q6⟩ : ∃ x, fallR bs p5 = x := ⟨_, rfl⟩
    obtain ⟨⟨sq, p7, E7⟩, q7⟩ : ∃ x, fallR bs p6 = x := ⟨_, rfl⟩
    obtain ⟨⟨kd, p8, b8⟩, q8⟩ : ∃ x, oneR bs p7 = x := ⟨_, rfl⟩
    have hbq : Bys qual ∧ qual.length ≤ 281474976710656 := by
      have := ordR_ok bs p3 hr.1
      rw [q4] at this
      exact ⟨this.1, by have := this.2; simp only at this; omega⟩
    refine (parse_read (row := row) (qual := qual) (fam := fam) (ts := ts) (sq := sq) (kd := kd) (p := p8) hr hbr hbq (fun W g rb rd => entry_plain rb rd h47 q1 q2 q3 hfm q4 q5 q6 q7 q8)).mono ?_
    rintro e w' ⟨hbad, hgood, hb⟩
    refine ⟨hb, ?_⟩
    by_cases G : (E1 = 0 ∧ b2 = false ∧ b3 = false ∧ E4 = 0 ∧ b5 = false ∧ E6 = 0 ∧ E7 = 0 ∧ b8 = false ∧ fm = mark kd 5 ∧ cm = mark kd 4) ∧ p8 = m ∧ checkS ⟨.slice none 0 0, fam, .slice none 0 0, ts, sq, kd, .slice none 0 0, row, qual, []⟩ = 0
    · obtain ⟨vr, vq, he, o1, B, hB, o2, hlt⟩ := hgood G
      obtain ⟨⟨rfl, rfl, rfl, rfl, rfl, rfl, rfl, rfl, g7, g8⟩, g9, g10⟩ := G
      refine .inl ⟨⟨vr, fam, vq, ts, sq, kd, .slice none 0 0, row, qual, []⟩, g10, rfl, ?_, hbr.1, hbq.1, rfl, he, o1, B, hB, o2, hlt⟩
      exact back_plain hr.1 q1 q2 q3 hfm q4 q5 q6 q7 q8 g7 g8 (by omega) _ _ _ _
    · refine .inr ⟨?_, hbad G⟩
      rintro ⟨D, hc, hv, hk⟩
      apply G
      by_cases k5 : D.kind = 5
      · obtain ⟨u1, u2, u3, u6, u7, r1, r2, r3, _⟩ := reads_fam hc k5
        rw [hk] at r1 r2 r3
        rw [q1] at r1
        simp only [Prod.mk.injEq] at r1
        obtain ⟨rfl, rfl, rfl⟩ := r1
        rw [q2] at r2
        simp only [Prod.mk.injEq] at r2
        obtain ⟨rfl, rfl, rfl⟩ := r2
        rw [q3] at r3
        simp only [Prod.mk.injEq] at r3
        exact absurd r3.1 hfm
      · obtain ⟨u1, u2, u3, u4, u5, u6, u7, r1, r2, r3, r4, r5, r6, r7, r8⟩ := reads_plain hc k5
        rw [hk] at r1 r2 r3 r4 r5 r6 r7 r8
        rw [q1] at r1
        simp only [Prod.mk.injEq] at r1
        obtain ⟨rfl, rfl, rfl⟩ := r1
        rw [q2] at r2
        simp only [Prod.mk.injEq] at r2
        obtain ⟨rfl, rfl, rfl⟩ := r2
        rw [q3] at r3
        simp only [Prod.mk.injEq] at r3
        obtain ⟨rfl, rfl, rfl⟩ := r3
        rw [q4] at r4
        simp only [Prod.mk.injEq] at r4
        obtain ⟨rfl, rfl, rfl⟩ := r4
        rw [q5] at r5
        simp only [Prod.mk.injEq] at r5
        obtain ⟨rfl, rfl, rfl⟩ := r5
        rw [q6] at r6
        simp only [Prod.mk.injEq] at r6
        obtain ⟨rfl, rfl, rfl⟩ := r6
        rw [q7] at r7
        simp only [Prod.mk.injEq] at r7
        obtain ⟨rfl, rfl, rfl⟩ := r7
        rw [q8] at r8
        simp only [Prod.mk.injEq] at r8
        obtain ⟨rfl, rfl, rfl⟩ := r8
        have hk0 : 0 ≤ D.kind := Int.le_trans (by decide) (check_facts hc).2.2.2.2.2.2.1.1
        exact ⟨⟨rfl, rfl, rfl, rfl, rfl, rfl, rfl, rfl, by rw [mark_toNat hk0]; simp [mark, k5], (mark_toNat hk0 4).symm⟩, hm.symm, checkS_eq hc hv _ _ _⟩

end Go.Proofs.YtdkolihakmnpiaaDoor

namespace Go.Proofs.YtdkolihakmnpiaaDoor
open Go.RowKit
set_option linter.unusedVariables false

def okIt (key val : List Nat) : Prop := IsKey key ∧ val.length ≤ 4096 ∧ (val.length = 0 ∨ key.getLast? = some 1)
theorem keyL_last (e : EntD) : (keyL e).getLast? = some e.kind.toNat := by unfold keyL; rw [List.getLast?_append]; rfl
theorem check_val {D : EntD} (h : checkS D = 0) (hv : D.val = []) (V : List Nat) (a b c : Value) : checkS ⟨a, D.fam, b, D.ts, D.seq, D.kind, c, D.row, D.qual, V⟩ = 0 ↔ V.length ≤ 4096 ∧ (V.length = 0 ∨ D.kind = 1) := by
  unfold checkS at *
  simp only at *
  split at h
  · cases h
  · split at h
    · cases h
    · split at h
      · cases h
      · split at h
        · cases h
        · split at h
          · cases h
          · split at h
            · cases h
            · rename_i h1 h2 h3 h4 h5 h6
              rw [if_neg h1, if_neg h2, if_neg h3, if_neg h4, if_neg h5, if_neg h6]
              split
              · rename_i h7
                constructor
                · intro k; cases k
                · intro k
                  omega
              · rename_i h7
                constructor
                · intro _
                  omega
                · intro _; rfl
theorem ok_iff {D : EntD} (h : checkS D = 0) (hv : D.val = []) (V : List Nat) (a b c : Value) : checkS ⟨a, D.fam, b, D.ts, D.seq, D.kind, c, D.row, D.qual, V⟩ = 0 ↔ okIt (keyL D) V := by
  rw [check_val h hv]
  unfold okIt
  rw [keyL_last]
  obtain ⟨_, f, _, _, t, s, k, _⟩ := check_facts h
  constructor
  · rintro ⟨h1, h2⟩
    refine ⟨⟨D, h, hv, rfl⟩, h1, h2.imp id (fun z => by rw [z]; rfl)⟩
  · rintro ⟨_, h1, h2⟩
    refine ⟨h1, h2.imp id (fun z => ?_)⟩
    have : D.kind.toNat = 1 := Option.some.inj z
    omega
def EnP (w : World) (key val : List Nat) (x : Ending) (w' : World) : Prop := ∃ e : EntD, x = .returned (.agg e.cells) ∧ EntD.Ok w' e ∧ (checkS e = 0 ↔ okIt key val) ∧ (IsKey key → keyL e = key ∧ e.val = val) ∧ Below w.heap.size w w' ∧ (Own w' w.heap.size e.vr e.row.length e.row ∧ Own w' w.heap.size e.vq e.qual.length e.qual ∧ Own w' w.heap.size e.vv e.val.length e.val)
def IBox (w : World) (g : Nat) (n p s : Int) (vk vv : Value) : Prop := w.heap[g]? = some (.cells #[.int .i64 n, .int .i64 p, .int .i64 s, vk, vv] 71 (0, 0))
theorem IBox.cells {w : World} {g : Nat} {n p s : Int} {vk vv : Value} (h : IBox w g n p s vk vv) : w.cell? ⟨g, 0, none⟩ = some (.int .i64 n) ∧ w.cell? ⟨g, 1, none⟩ = some (.int .i64 p) ∧ w.cell? ⟨g, 2, none⟩ = some (.int .i64 s) ∧ w.cell? ⟨g, 3, none⟩ = some vk ∧ w.cell? ⟨g, 4, none⟩ = some vv := by
  unfold IBox at h
  simp [World.cell?, h]
theorem IBox.later {w w' : World} {g : Nat} {n p s : Int} {vk vv : Value} (h : IBox w g n p s vk vv) (hb : Below w.heap.size w w') : IBox w' g n p s vk vv := by
  unfold IBox at *
  rw [hb.block g (Array.getElem?_eq_some_iff.1 h).1]
  exact h
theorem EBox.fz7b {w : World} {g : Nat} {e : EntD} (h : EBox w g e) : w.frozen? ⟨g, 0, none⟩ = false ∧ w.frozen? ⟨g, 1, none⟩ = false ∧ w.frozen? ⟨g, 2, none⟩ = false ∧ w.frozen? ⟨g, 3, none⟩ = false ∧ w.frozen? ⟨g, 4, none⟩ = false ∧ w.frozen? ⟨g, 5, none⟩ = false ∧ w.frozen? ⟨g, 6, none⟩ = false := ⟨h.fz 0, h.fz 1, h.fz 2, h.fz 3, h.fz 4, h.fz 5, h.fz 6⟩
set_option maxRecDepth 100000 in
set_option maxHeartbeats 4000000 in
theorem entry_any {w : World} {ak av : Option Addr} {kn kc vn vc : Nat} {K V : List Nat} (n p s : Int) (hk : Rd w (.slice ak kn kc) K) (hv : Rd w (.slice av vn vc) V) (hkl : kn ≤ 131072) (hvl : vn ≤ 131072) :
    Calls Tryd.prog 35 #[.agg #[.int .i64 n, .int .i64 p, .int .i64 s, .slice ak kn kc, .slice av vn vc]] w fun x w' => EnP w K V x w' := by
  have A1 := (Below.refl w.heap.size w).alloc (Nat.le_refl _) (.cells #[.int .i64 n, .int .i64 p, .int .i64 s, .slice ak kn kc, .slice av vn vc] 71)
  have A2 := A1.alloc A1.size (.cells #[.slice none 0 0, .int .i64 0, .slice none 0 0, .int .i64 0, .int .i64 0, .int .i64 0, .slice none 0 0] 37)
  have ib : IBox (w.alloc (.cells #[.int .i64 n, .int .i64 p, .int .i64 s, .slice ak kn kc, .slice av vn vc] 71)) w.heap.size n p s (.slice ak kn kc) (.slice av vn vc) := heap_alloc_new w _
  have ib2 := ib.later ((Below.refl _ _).alloc (Nat.le_refl _) (.cells #[.slice none 0 0, .int .i64 0, .slice none 0 0, .int .i64 0, .int .i64 0, .int .i64 0, .slice none 0 0] 37))
  obtain ⟨X, hX⟩ : ∃ X, X = (w.alloc (.cells #[.int .i64 n, .int .i64 p, .int .i64 s, .slice ak kn kc, .slice av vn vc] 71)).alloc (.cells #[.slice none 0 0, .int .i64 0, .slice none 0 0, .int .i64 0, .int .i64 0, .int .i64 0, .slice none 0 0] 37) := ⟨_, rfl⟩
  have hXs : X.heap.size = w.heap.size + 2 := by rw [hX]; simp
  have zb : EBox X (w.heap.size + 1) ⟨.slice none 0 0, 0, .slice none 0 0, 0, 0, 0, .slice none 0 0, [], [], []⟩ := by
    unfold EBox EntD.cells
    rw [hX]
    have := heap_alloc_new (w.alloc (.cells #[.int .i64 n, .int .i64 p, .int .i64 s, .slice ak kn kc, .slice av vn vc] 71)) (.cells #[.slice none 0 0, .int .i64 0, .slice none 0 0, .int .i64 0, .int .i64 0, .int .i64 0, .slice none 0 0] 37)
    simpa using this
  rw [← hX] at A2 ib2
  have HPk := Lib.hid (parse_any (hk.later A2) (by have := (rd_lens hk).1; omega))
  have HX := Lib.hid hX
  have HA2 := Lib.hid A2
  have HIb := Lib.hid ib2
  have HZb := Lib.hid zb
  have HXs := Lib.hid hXs
  have HV := Lib.hid (hv.later A2)
  obtain ⟨c0, c1, c2, c3, c4⟩ := ib2.cells
  have HkL := Lib.hid (rd_lens hk).1
  have HvL := Lib.hid (rd_lens hv).1
  clear A1 A2 ib ib2 hX zb hXs hk hv
  go_enter Tryd.func35, Tryd.ntmps35
  go_upto_region 1 with fail
  rw [← HX.out]
  clear HX
  go_wp2_with fail
  refine Calls.mono HPk.out ?_
  rintro z X1 ⟨b1, hz⟩
  obtain ⟨ar, mr, cr, aq, mq, cq, fam, ts, sq, kd, row, qual, en, rfl, ⟨own1, own2, hsm⟩, fin⟩ : ∃ (ar : Option Addr) (mr cr : Nat) (aq : Option Addr) (mq cq : Nat) (fam ts sq kd : Int) (row qual : List Nat) (en : Int), z = .returned (.tuple #[.agg #[.slice ar mr cr, .int .i64 fam, .slice aq mq cq, .int .i64 ts, .int .i64 sq, .int .i64 kd, .slice none 0 0], .int .i64 en]) ∧ (Own X1 w.heap.size (.slice ar mr cr) row.length row ∧ Own X1 w.heap.size (.slice aq mq cq) qual.length qual ∧ Bys row ∧ Bys qual ∧ row.length ≤ 256 ∧ qual.length ≤ 256) ∧ Hid (∀ vv, (checkS ⟨.slice ar mr cr, fam, .slice aq mq cq, ts, sq, kd, vv, row, qual, V⟩ = 0 ↔ okIt K V) ∧ (IsKey K → keyL ⟨.slice ar mr cr, fam, .slice aq mq cq, ts, sq, kd, vv, row, qual, V⟩ = K)) := by
    rcases hz with h | h
    · obtain ⟨D, hD0, hDv, hDk, hDr, hDq, hDvv, rfl, own1, BB, hBB, own2, hlo⟩ := h
      obtain ⟨q1, _, q2, _⟩ := check_facts hD0
      have rd1 := own1.rd hDr (by omega)
      have rd2 := own2.rd hDq (by omega)
      obtain ⟨ar, mr, cr, h1⟩ := rd_slice rd1
      obtain ⟨aq, mq, cq, h2⟩ := rd_slice rd2
      rw [h1] at own1
      rw [h2] at own2
      refine ⟨ar, mr, cr, aq, mq, cq, D.fam, D.ts, D.seq, D.kind, D.row, D.qual, 0, ?_, ⟨own1.mono (by have := HXs.out; omega), own2.mono (by have := HXs.out; omega), hDr, hDq, q1.2, q2⟩, fun vv => ⟨?_, fun _ => ?_⟩⟩
      · unfold EntD.cells
        rw [h1, h2, hDvv]
      · rw [ok_iff hD0 hDv, hDk]
      · rw [← hDk]; rfl
    · obtain ⟨hno, rfl⟩ := h
      refine ⟨none, 0, 0, none, 0, 0, 0, 0, 0, 0, [], [], 27, rfl, ⟨⟨rfl, World.ownsRow_nil _ _ _ _⟩, ⟨rfl, World.ownsRow_nil _ _ _ _⟩, (by intro x hx; cases hx), (by intro x hx; cases hx), Nat.zero_le _, Nat.zero_le _⟩, fun vv => ⟨⟨fun h => ?_, fun h => absurd h.1 hno⟩, fun h => absurd h hno⟩⟩
      unfold checkS at h
      simp at h
  have X2b := EBox.new X1 ⟨.slice ar mr cr, fam, .slice aq mq cq, ts, sq, kd, .slice none 0 0, row, qual, []⟩
  have B2 : Below X1.heap.size X1 _ := (Below.refl X1.heap.size X1).alloc (Nat.le_refl _) (.cells #[.slice ar mr cr, .int .i64 fam, .slice aq mq cq, .int .i64 ts, .int .i64 sq, .int .i64 kd, .slice none 0 0] 37)
  have S2 : (X1.alloc (.cells #[.slice ar mr cr, .int .i64 fam, .slice aq mq cq, .int .i64 ts, .int .i64 sq, .int .i64 kd, .slice none 0 0] 37)).heap.size = X1.heap.size + 1 := by simp
  unfold EntD.cells at X2b
  simp only at X2b
  obtain ⟨X2, hX2⟩ : ∃ X2, X2 = X1.alloc (.cells #[.slice ar mr cr, .int .i64 fam, .slice aq mq cq, .int .i64 ts, .int .i64 sq, .int .i64 kd, .slice none 0 0] 37) := ⟨_, rfl⟩
  rw [← hX2] at X2b B2 S2
  have b2 : Below X.heap.size X X2 := b1.trans (B2.mono b1.size)
  have HX2 := Lib.hid hX2
  have HE2 := Lib.hid X2b
  have HR := Lib.hid (And.intro (own1.later B2) (And.intro (own2.later B2) hsm))
  have HI2 := Lib.hid (HIb.out.later b2)
  have HZ2 := Lib.hid (HZb.out.later b2)
  have HA3 := Lib.hid (HA2.out.trans (b2.mono HA2.out.size))
  have HS2 := Lib.hid (show X1.heap.size < X2.heap.size ∧ w.heap.size + 2 ≤ X1.heap.size from ⟨by omega, by have := b1.size; have := HXs.out; omega⟩)
  have HV2 := Lib.hid (HV.out.later b2)
  have HC := Lib.hid (handed (clone_any HV2.out (by have := HvL.out; omega)))
  obtain ⟨e0, e1, e2, e3, e4⟩ := HI2.out.cells
  clear c0 c1 c2 c3 c4 own1 own2 hsm B2 S2 X2b hX2 b1 b2 HPk HIb HZb HV hz
  go_upto_region 2 with fail
  rw [← HX2.out]
  clear HX2
  go_wp2_with fail
  refine Calls.mono HC.out ?_
  rintro z X3 ⟨a3, m3, c3, rfl, own3, b3⟩
  have HV3 : Hid (Bys V ∧ m3 = V.length) := ⟨HV2.out.1, own3.1⟩
  have n1 : ¬ (X1.heap.size = w.heap.size + 1) := by have := HS2.out; omega
  have n2 : ¬ (w.heap.size + 1 = X1.heap.size) := by have := HS2.out; omega
  have be := HE2.out.later b3
  have bg := HZ2.out.later b3
  have A4 := HA3.out.trans (b3.mono HA3.out.size)
  have ap1 := apart_set X3 X1.heap.size 6 (.slice a3 m3 c3)
  have be2 := be.set6 (.slice a3 m3 c3) V
  have bg2 := bg.apart ap1 n2
  have fa := filled_apart (X3.setCell ⟨X1.heap.size, 6, none⟩ (.slice a3 m3 c3)) (w.heap.size + 1) ⟨.slice ar mr cr, fam, .slice aq mq cq, ts, sq, kd, .slice a3 m3 c3, row, qual, V⟩
  have fb := filled_box bg2 ⟨.slice ar mr cr, fam, .slice aq mq cq, ts, sq, kd, .slice a3 m3 c3, row, qual, V⟩
  have A5 := A4.trans (ap1.below (by have := HS2.out; omega) A4.size)
  have bw := A5.trans (fa.below (by omega) A5.size)
  have y1 := ((HR.out.1.later b3).apartE be ap1).apartE bg2 fa
  have y2 := ((HR.out.2.1.later b3).apartE be ap1).apartE bg2 fa
  have y3 := (own3.apartE be ap1).apartE bg2 fa
  have HDN : Hid (_ ∧ _ ∧ _ ∧ _ ∧ _) := ⟨fb, bw, y1, y2, y3⟩
  clear fa fb bw y1 y2 y3 ap1 be2 bg2 A4 A5 own3 b3
  simp only [filled] at HDN
  obtain ⟨g0, g1, g2, g3, g4, g5, g6⟩ := bg.cells7
  obtain ⟨gf0, gf1, gf2, gf3, gf4, gf5, gf6⟩ := EBox.fz7b bg
  simp only at g0 g1 g2 g3 g4 g5 g6
  obtain ⟨h0, h1, h2, h3, h4, h5, h6⟩ := be.cells7
  obtain ⟨ef0, ef1, ef2, ef3, ef4, ef5, ef6⟩ := EBox.fz7b be
  simp only at h0 h1 h2 h3 h4 h5 h6
  clear e0 e1 e2 e3 e4 be bg
  have HSM := Lib.hid HR.out.2.2
  clear HR HE2 HI2 HZ2 HA3 HV2 HC
  go_wp2
  have HH := HDN.out
  clear HDN
  generalize ((((((((X3.setCell ⟨X1.heap.size, 6, none⟩ (.slice a3 m3 c3)).setCell ⟨w.heap.size + 1, 0, none⟩ (.slice ar mr cr)).setCell ⟨w.heap.size + 1, 1, none⟩ (.int .i64 fam)).setCell ⟨w.heap.size + 1, 2, none⟩ (.slice aq mq cq)).setCell ⟨w.heap.size + 1, 3, none⟩ (.int .i64 ts)).setCell ⟨w.heap.size + 1, 4, none⟩ (.int .i64 sq)).setCell ⟨w.heap.size + 1, 5, none⟩ (.int .i64 kd)).setCell ⟨w.heap.size + 1, 6, none⟩ (.slice a3 m3 c3)) = WZ at *
  obtain ⟨fb, bw, y1, y2, y3⟩ := HH
  obtain ⟨t0, t1, t2, t3, t4, t5, t6⟩ := fb.cells7
  simp only at t0 t1 t2 t3 t4 t5 t6
  (try simp only [Exit.inBlock, Exit.then])
  refine bodyPost_ret (v := .agg #[.slice ar mr cr, .int .i64 fam, .slice aq mq cq, .int .i64 ts, .int .i64 sq, .int .i64 kd, .slice a3 m3 c3]) ?hres rfl ?_
  case hres => simp [results, Tryd.results35, go_sem, t0, t1, t2, t3, t4, t5, t6]
  obtain ⟨k1, k2, k3, k4⟩ := HSM.out
  have hm3 := HV3.out.2
  have hvv := HvL.out
  exact ⟨⟨.slice ar mr cr, fam, .slice aq mq cq, ts, sq, kd, .slice a3 m3 c3, row, qual, V⟩, rfl, ⟨y1.rd k1 (by omega), y2.rd k2 (by omega), y3.rd HV3.out.1 (by omega)⟩, (fin.out _).1, fun h => ⟨(fin.out _).2 h, rfl⟩, bw, y1, y2, by have := y3.mono (B' := w.heap.size) (by have := HS2.out; omega); rw [HV3.out.2] at this; rw [HV3.out.2]; exact this⟩
end Go.Proofs.YtdkolihakmnpiaaDoor

namespace Go.Proofs.YtdkolihakmnpiaaDoor
open Go.RowKit
set_option linter.unusedVariables false

def wordAt (P : List Nat) (i : Nat) : Nat := rdle (P.getD (i * 4 + 3) 0) (P.getD (i * 4 + 2) 0) (P.getD (i * 4 + 1) 0) (P.getD (i * 4) 0)
theorem wordAt_drop (P : List Nat) (i : Nat) : rdle ((P.drop (i * 4)).getD 3 0) ((P.drop (i * 4)).getD 2 0) ((P.drop (i * 4)).getD 1 0) ((P.drop (i * 4)).getD 0 0) = wordAt P i := by
  unfold wordAt
  simp [List.getD_eq_getElem?_getD, List.getElem?_drop]
set_option maxRecDepth 100000 in
set_option maxHeartbeats 1000000 in
theorem place_any {W : World} {g : Nat} {r n : Int} {ve : Value} {b off np cp : Nat} {P : List Nat} (hbx : LBox W g r n ve (.slice (some ⟨b, off, none⟩) np cp)) (hP : Rd W (.slice (some ⟨b, off, none⟩) np cp) P) (i : Nat) (hi : i * 4 + 4 ≤ P.length) (hl : P.length ≤ 131072) :
    Calls Tryd.prog 37 #[.pointer (some ⟨g, 0, none⟩), .int .i64 (i : Int)] W fun e w' => e = .returned (.int .i64 ((wordAt P i : Nat) : Int)) ∧ Below W.heap.size W w' := by
  obtain ⟨hn, hle, hm, hl48⟩ := rd_lens hP
  obtain ⟨c0, c1, c2, c3⟩ := hbx.cells
  have hk : i * 4 + 4 ≤ np := by omega
  have hnp : np ≤ 131072 := by omega
  have HP : Hid (Rd W (.slice (some ⟨b, off + i * 4, none⟩) (np - i * 4) (cp - i * 4)) (P.drop (i * 4))) := by
    have := hP.sub (i * 4) np (by omega) (Nat.le_refl _) rfl rfl rfl
    rwa [hn, List.take_length, ← hn] at this
  have HN := Lib.hid (And.intro hn hi)
  clear hn hi hl hbx hP
  have HC := Lib.hid (readWord_any HP.out (by rw [List.length_drop]; have := HN.out; omega))
  rw [wordAt_drop] at HC
  generalize wordAt P i = wd at *
  go_enter Tryd.func37, Tryd.ntmps37
  go_wp2_with fail
  refine Calls.mono HC.out ?_
  rintro z X ⟨rfl, hb⟩
  go_wp2
  go_ret
  exact ⟨rfl, hb⟩
def fitP (r : Nat) (P last : List Nat) (it : It) : Prop := ordC last it.key < 0 ∧ okIt it.key it.val ∧ (it.number % r = 0 → it.shared = 0 ∧ it.place = wordAt P (it.number / r)) ∧ (it.number % r ≠ 0 → it.shared = comL last it.key)
open Classical in
noncomputable def fitB (r : Nat) (P last : List Nat) (it : It) : Bool := decide (fitP r P last it)
theorem wrap_small {q : Nat} (hq : q < 9223372036854775808) : IntKind.i64.wrap ((q : Nat) : Int) = (q : Int) := by
  simp only [IntKind.wrap, IntKind.bits, IntKind.signed]
  simp
  omega
theorem IBox.new (w : World) (n p s : Int) (vk vv : Value) : IBox (w.alloc (.cells #[.int .i64 n, .int .i64 p, .int .i64 s, vk, vv] 71)) w.heap.size n p s vk vv := heap_alloc_new w _
theorem LBox.later {w w' : World} {g : Nat} {r n : Int} {ve vp : Value} (h : LBox w g r n ve vp) (hb : Below w.heap.size w w') : LBox w' g r n ve vp := by
  unfold LBox at *
  rw [hb.block g (Array.getElem?_eq_some_iff.1 h).1]
  exact h
set_option maxRecDepth 100000 in
set_option maxHeartbeats 4000000 in
theorem fits_any {w : World} {g r : Nat} {n : Int} {ve : Value} {b off np cp : Nat} {P K V L : List Nat} (nu pl sh : Nat) {ak av al : Option Addr} {kn kc vn vc nl cl : Nat}
    (hbx : LBox w g (r : Int) n ve (.slice (some ⟨b, off, none⟩) np cp)) (hP : Rd w (.slice (some ⟨b, off, none⟩) np cp) P) (hk : Rd w (.slice ak kn kc) K) (hv : Rd w (.slice av vn vc) V) (hl : Rd w (.slice al nl cl) L)
    (hkl : kn ≤ 131072) (hvl : vn ≤ 131072) (hr : 1 ≤ r ∧ r ≤ 16) (hnu : nu < 4294967296) (hpl : nu / r * 4 + 4 ≤ P.length) (hP17 : P.length ≤ 131072) :
    Calls Tryd.prog 63 #[.pointer (some ⟨g, 0, none⟩), .agg #[.int .i64 (nu : Int), .int .i64 (pl : Int), .int .i64 (sh : Int), .slice ak kn kc, .slice av vn vc], .slice al nl cl] w fun e w' => e = .returned (.bool (fitB r P L ⟨nu, pl, sh, K, V⟩)) ∧ Below w.heap.size w w' := by
  obtain ⟨FB, hFB⟩ : ∃ FB, FB = fitB r P L ⟨nu, pl, sh, K, V⟩ := ⟨_, rfl⟩
  rw [← hFB]
  have A1 := (Below.refl w.heap.size w).alloc (Nat.le_refl _) (.cells #[.int .i64 nu, .int .i64 pl, .int .i64 sh, .slice ak kn kc, .slice av vn vc] 71)
  have ib := IBox.new w nu pl sh (.slice ak kn kc) (.slice av vn vc)
  obtain ⟨X, hX⟩ : ∃ X, X = w.alloc (.cells #[.int .i64 nu, .int .i64 pl, .int .i64 sh, .slice ak kn kc, .slice av vn vc] 71) := ⟨_, rfl⟩
  rw [← hX] at A1 ib
  have HX := Lib.hid hX
  obtain ⟨o, ho⟩ : ∃ o, o = ordC L K := ⟨_, rfl⟩
  have HO := Lib.hid ho
  have HCmp := Lib.hid (bytesCompare_any (hl.later A1) (hk.later A1))
  rw [← ho] at HCmp
  have HEn := Lib.hid (entry_any (nu : Int) (pl : Int) (sh : Int) (hk.later A1) (hv.later A1) hkl hvl)
  have HLb := Lib.hid (hbx.later A1)
  have HP := Lib.hid (hP.later A1)
  have HK := Lib.hid (hk.later A1)
  have HL := Lib.hid (hl.later A1)
  have HA1 := Lib.hid A1
  have HIb := Lib.hid ib
  have HFB := Lib.hid hFB
  have HPl := Lib.hid (And.intro hpl hP17)
  obtain ⟨c0, c1, c2, c3, c4⟩ := ib.cells
  clear A1 hX ho hFB hbx hP hk hv hl hpl hP17 ib
  go_enter Tryd.func63, Tryd.ntmps63
  go_upto_region 1 with fail
  rw [← HX.out]
  clear HX
  go_wp2_with fail
  refine Calls.mono HCmp.out ?_
  rintro z X0 ⟨rfl, rfl⟩
  by_cases ho0 : 0 ≤ o
  · go_wp2
    go_ret
    refine ⟨?_, HA1.out⟩
    rw [HFB.out]
    have : ¬ fitP r P L ⟨nu, pl, sh, K, V⟩ := fun h => by have := h.1; simp only at this; rw [← HO.out] at this; omega
    simp [fitB, this]
  go_wp2_with fail
  refine Calls.mono HEn.out ?_
  rintro z X1 ⟨e, rfl, hok, hchk, -, b1, -⟩
  have HCk := Lib.hid (check_any hok)
  obtain ⟨cs, hcs⟩ : ∃ cs, cs = checkS e := ⟨_, rfl⟩
  rw [← hcs] at HCk hchk
  have HChk := Lib.hid hchk
  have HB1 := Lib.hid b1
  clear hok hchk b1 hcs
  go_wp2_with fail
  refine Calls.mono HCk.out ?_
  rintro z X2 ⟨rfl, b2⟩
  have HB2 := Lib.hid (HB1.out.trans (b2.mono HB1.out.size))
  clear b2 HB1 HCk
  by_cases hc0 : cs = 0
  rotate_left
  · have hc1 : ¬ ((cs : Int) = 0) := by omega
    have hc2 : ((cs : Int) != 0) = true := bne_iff_ne.2 hc1
    have hci : (decide (0 ≤ o) || ((cs : Int) != 0)) = true := by rw [hc2, Bool.or_true]
    go_wp2
    go_ret
    refine ⟨?_, HA1.out.trans (HB2.out.mono HA1.out.size)⟩
    rw [HFB.out]
    have : ¬ fitP r P L ⟨nu, pl, sh, K, V⟩ := fun h => hc0 (HChk.out.2 h.2.1)
    simp [fitB, this]
  subst hc0
  have HOk : Hid (okIt K V) := HChk.out.1 rfl
  have HIb2 := Lib.hid (HIb.out.later HB2.out)
  have HLb2 := Lib.hid (HLb.out.later HB2.out)
  have HP2 := Lib.hid (HP.out.later HB2.out)
  have HK2 := Lib.hid (HK.out.later HB2.out)
  have HL2 := Lib.hid (HL.out.later HB2.out)
  have HA2 := Lib.hid (HA1.out.trans (HB2.out.mono HA1.out.size))
  clear HIb HLb HP HK HL HA1 HB2 HChk HEn HCmp c0 c1 c2 c3 c4
  obtain ⟨Z, hZ⟩ : ∃ Z : Bool, Z = decide (nu % r = 0) := ⟨_, rfl⟩
  have HZ := Lib.hid hZ
  clear hZ
  have r1 : (1 : Int) ≤ (r : Int) := by omega
  have nu0 : (0 : Int) ≤ (nu : Int) := by omega
  go_upto_region 3 with fail
  go_cut [25] (fun b wx => b = .bool Z ∧ Hid (Below X2.heap.size X2 wx))
  case first =>
    obtain ⟨c0, c1, c2, c3, c4⟩ := HIb2.out.cells
    obtain ⟨d0, d1, d2, d3⟩ := HLb2.out.cells
    by_cases hz : nu % r = 0
    · have hz2 : (((nu : Int) % (r : Int)) == 0) = true := by rw [beq_iff_eq]; omega
      have hZt : Z = true := by rw [HZ.out]; simp [hz]
      go_quiet (fail)
      go_wp2_with fail
      go_meet
      exact ⟨by rw [hZt], below_drewN (Below.refl _ _) _⟩
    · have hz2 : (((nu : Int) % (r : Int)) == 0) = false := by rw [beq_eq_false_iff_ne]; omega
      have hZt : Z = false := by rw [HZ.out]; simp [hz]
      go_quiet (fail)
      go_wp2_with fail
      go_meet
      exact ⟨by rw [hZt], below_drewN (Below.refl _ _) _⟩
  case rest =>
  obtain ⟨rfl, HX3⟩ := hcut
  rename World => X3
  have HIb3 := Lib.hid (HIb2.out.later HX3.out)
  have HLb3 := Lib.hid (HLb2.out.later HX3.out)
  have HP3 := Lib.hid (HP2.out.later HX3.out)
  have HK3 := Lib.hid (HK2.out.later HX3.out)
  have HL3 := Lib.hid (HL2.out.later HX3.out)
  have HA3 := Lib.hid (HA2.out.trans (HX3.out.mono HA2.out.size))
  clear HIb2 HLb2 HP2 HK2 HL2 HA2 HX3
  have BD : Below X3.heap.size X3 X3.drew := (Below.refl _ _).drew
  cases Z with
  | true =>
    have hz : nu % r = 0 := by have := HZ.out; simpa using this.symm
    by_cases hs : sh = 0
    rotate_left
    · have hsi : ((sh : Int) == 0) = false := by rw [beq_eq_false_iff_ne]; omega
      obtain ⟨c0, c1, c2, c3, c4⟩ := HIb3.out.cells
      obtain ⟨d0, d1, d2, d3⟩ := HLb3.out.cells
      go_wp2_with fail
      go_quiet (fail)
      go_wp2
      go_ret
      refine ⟨?_, below_drewN HA3.out _⟩
      rw [HFB.out]
      have : ¬ fitP r P L ⟨nu, pl, sh, K, V⟩ := fun h => hs (h.2.2.1 hz).1
      simp [fitB, this]
    subst hs
    have HPc := Lib.hid (fun wx (h : Below X3.heap.size X3 wx) => place_any (HLb3.out.later h) (HP3.out.later h) (nu / r) HPl.out.1 HPl.out.2)
    obtain ⟨wd, hwd⟩ : ∃ wd, wd = wordAt P (nu / r) := ⟨_, rfl⟩
    rw [← hwd] at HPc
    obtain ⟨Y, hY⟩ : ∃ Y : Bool, Y = ((pl : Int) == (wd : Int)) := ⟨_, rfl⟩
    have HQ : Hid (IntKind.i64.wrap ((nu : Int) / (r : Int)) = (nu : Int) / (r : Int)) := by
      have h1 : (nu : Int) / (r : Int) = ((nu / r : Nat) : Int) := by simp
      have h2 : nu / r ≤ nu := Nat.div_le_self _ _
      unfold Hid
      rw [h1]
      exact wrap_small (by omega)
    have HY := Lib.hid hY
    have HWd := Lib.hid hwd
    clear hwd hY
    go_upto_region 4 with fail
    refine wp_region_noPanic ?_
    refine wp_region_held_drew (S := fun wx => Below X3.heap.size X3 wx) (by kernel_rfl) BD (fun hHeld => ?_)
    refine wpAnyH_take (i := 0) (oi := { dst := some 26, op := _, type := _, pos := _, after := _, guard := _ }) (v := .pointer (some ⟨w.heap.size, 2, none⟩)) rfl (by kernel_rfl) (by kernel_rfl) (by kernel_rfl) (fun _ _ _ h => h) (Or.inl ⟨by kernel_rfl, fun wy hy => by (go_simp; done)⟩) (by assumption) ?_
    try simp only [Act.put, List.setIfInBounds_toArray, List.set_cons_zero, List.set_cons_succ]
    refine wpAnyH_take (i := 1) (oi := { dst := some 27, op := _, type := _, pos := _, after := _, guard := _ }) (v := .int .i64 0) rfl (by kernel_rfl) (by kernel_rfl) (by kernel_rfl) (fun _ _ _ h => h) (Or.inl ⟨by kernel_rfl, fun wy hy => by (obtain ⟨q0, q1, q2, q3, q4⟩ := (HIb3.out.later hy).cells; go_simp; done)⟩) (by assumption) ?_
    try simp only [Act.put, List.setIfInBounds_toArray, List.set_cons_zero, List.set_cons_succ]
    refine wpAnyH_take (i := 2) (oi := { dst := some 28, op := _, type := _, pos := _, after := _, guard := _ }) (v := .bool true) rfl (by kernel_rfl) (by kernel_rfl) (by kernel_rfl) (fun _ _ _ h => h) (Or.inl ⟨by kernel_rfl, fun wy hy => by (go_simp; done)⟩) (by assumption) ?_
    try simp only [Act.put, List.setIfInBounds_toArray, List.set_cons_zero, List.set_cons_succ]
    refine wpAnyH_take (i := 3) (oi := { dst := some 29, op := _, type := _, pos := _, after := _, guard := _ }) (v := .bool true) rfl (by kernel_rfl) (by kernel_rfl) (by kernel_rfl) (fun _ _ _ h => h) (Or.inl ⟨by kernel_rfl, fun wy hy => by (go_simp; done)⟩) (by assumption) ?_
    try simp only [Act.put, List.setIfInBounds_toArray, List.set_cons_zero, List.set_cons_succ]
    refine wpAnyH_take (i := 4) (oi := { dst := some 30, op := _, type := _, pos := _, after := _, guard := _ }) (v := .pointer (some ⟨w.heap.size, 1, none⟩)) rfl (by kernel_rfl) (by kernel_rfl) (by kernel_rfl) (fun _ _ _ h => h) (Or.inl ⟨by kernel_rfl, fun wy hy => by (go_simp; done)⟩) (by assumption) ?_
    try simp only [Act.put, List.setIfInBounds_toArray, List.set_cons_zero, List.set_cons_succ]
    refine wpAnyH_take (i := 5) (oi := { dst := some 31, op := _, type := _, pos := _, after := _, guard := _ }) (v := .int .i64 (pl : Int)) rfl (by kernel_rfl) (by kernel_rfl) (by kernel_rfl) (fun _ _ _ h => h) (Or.inl ⟨by kernel_rfl, fun wy hy => by (obtain ⟨q0, q1, q2, q3, q4⟩ := (HIb3.out.later hy).cells; go_simp; done)⟩) (by assumption) ?_
    try simp only [Act.put, List.setIfInBounds_toArray, List.set_cons_zero, List.set_cons_succ]
    refine wpAnyH_take (i := 6) (oi := { dst := some 32, op := _, type := _, pos := _, after := _, guard := _ }) (v := .pointer (some ⟨g, 0, none⟩)) rfl (by kernel_rfl) (by kernel_rfl) (by kernel_rfl) (fun _ _ _ h => h) (Or.inl ⟨by kernel_rfl, fun wy hy => by (go_simp; done)⟩) (by assumption) ?_
    try simp only [Act.put, List.setIfInBounds_toArray, List.set_cons_zero, List.set_cons_succ]
    refine wpAnyH_take (i := 7) (oi := { dst := some 33, op := _, type := _, pos := _, after := _, guard := _ }) (v := .pointer (some ⟨w.heap.size, 0, none⟩)) rfl (by kernel_rfl) (by kernel_rfl) (by kernel_rfl) (fun _ _ _ h => h) (Or.inl ⟨by kernel_rfl, fun wy hy => by (go_simp; done)⟩) (by assumption) ?_
    try simp only [Act.put, List.setIfInBounds_toArray, List.set_cons_zero, List.set_cons_succ]
    refine wpAnyH_take (i := 8) (oi := { dst := some 34, op := _, type := _, pos := _, after := _, guard := _ }) (v := .int .i64 (nu : Int)) rfl (by kernel_rfl) (by kernel_rfl) (by kernel_rfl) (fun _ _ _ h => h) (Or.inl ⟨by kernel_rfl, fun wy hy => by (obtain ⟨q0, q1, q2, q3, q4⟩ := (HIb3.out.later hy).cells; go_simp; done)⟩) (by assumption) ?_
    try simp only [Act.put, List.setIfInBounds_toArray, List.set_cons_zero, List.set_cons_succ]
    refine wpAnyH_take (i := 9) (oi := { dst := some 35, op := _, type := _, pos := _, after := _, guard := _ }) (v := .pointer (some ⟨g, 0, none⟩)) rfl (by kernel_rfl) (by kernel_rfl) (by kernel_rfl) (fun _ _ _ h => h) (Or.inl ⟨by kernel_rfl, fun wy hy => by (go_simp; done)⟩) (by assumption) ?_
    try simp only [Act.put, List.setIfInBounds_toArray, List.set_cons_zero, List.set_cons_succ]
    refine wpAnyH_take (i := 10) (oi := { dst := some 36, op := _, type := _, pos := _, after := _, guard := _ }) (v := .pointer (some ⟨g, 0, none⟩)) rfl (by kernel_rfl) (by kernel_rfl) (by kernel_rfl) (fun _ _ _ h => h) (Or.inl ⟨by kernel_rfl, fun wy hy => by (go_simp; done)⟩) (by assumption) ?_
    try simp only [Act.put, List.setIfInBounds_toArray, List.set_cons_zero, List.set_cons_succ]
    refine wpAnyH_take (i := 11) (oi := { dst := some 37, op := _, type := _, pos := _, after := _, guard := _ }) (v := .pointer (some ⟨g, 0, none⟩)) rfl (by kernel_rfl) (by kernel_rfl) (by kernel_rfl) (fun _ _ _ h => h) (Or.inl ⟨by kernel_rfl, fun wy hy => by (go_simp; done)⟩) (by assumption) ?_
    try simp only [Act.put, List.setIfInBounds_toArray, List.set_cons_zero, List.set_cons_succ]
    refine wpAnyH_take (i := 12) (oi := { dst := some 38, op := _, type := _, pos := _, after := _, guard := _ }) (v := .int .i64 (r : Int)) rfl (by kernel_rfl) (by kernel_rfl) (by kernel_rfl) (fun _ _ _ h => h) (Or.inl ⟨by kernel_rfl, fun wy hy => by (obtain ⟨q0, q1, q2, q3⟩ := (HLb3.out.later hy).cells; go_simp; done)⟩) (by assumption) ?_
    try simp only [Act.put, List.setIfInBounds_toArray, List.set_cons_zero, List.set_cons_succ]
    refine wpAnyH_take (i := 13) (oi := { dst := some 39, op := _, type := _, pos := _, after := _, guard := _ }) (v := .int .i64 ((nu / r : Nat) : Int)) rfl (by kernel_rfl) (by kernel_rfl) (by kernel_rfl) (fun _ _ _ h => h) (Or.inl ⟨by kernel_rfl, fun wy hy => by (go_simp; rw [if_neg (by omega), HQ.out])⟩) (by assumption) ?_
    try simp only [Act.put, List.setIfInBounds_toArray, List.set_cons_zero, List.set_cons_succ]
    refine wpAnyH_ready (rs := [14]) (by kernel_rfl) (by simp) ?_
    refine AllReadyH.cons (o := { dst := some 40, op := _, type := _, pos := _, after := _, guard := _ }) rfl (fun KK hK => ?_) AllReadyH.nil
    go_simp
    go_at_call 37
    refine (HPc.out _ BD).mono ?_
    rintro e1 X4 ⟨rfl, hb2⟩
    have hb22 : Below X3.heap.size X3 X4 := BD.trans hb2
    clear hb2 BD HPc
    go_wp2_with fail
    refine hK.out _ _ hb22 (fun hHeld => ?_)
    clear hK
    try simp only [Act.put, List.setIfInBounds_toArray, List.set_cons_zero, List.set_cons_succ]
    refine wpAnyH_take (i := 15) (oi := { dst := some 41, op := _, type := _, pos := _, after := _, guard := _ }) (v := .bool Y) rfl (by kernel_rfl) (by kernel_rfl) (by kernel_rfl) (fun _ _ _ h => h) (Or.inl ⟨by kernel_rfl, fun wy hy => by (go_simp; exact HY.out.symm)⟩) (by assumption) ?_
    try simp only [Act.put, List.setIfInBounds_toArray, List.set_cons_zero, List.set_cons_succ]
    refine wpAnyH_take (i := 16) (oi := { dst := some 42, op := _, type := _, pos := _, after := _, guard := _ }) (v := .bool Y) rfl (by kernel_rfl) (by kernel_rfl) (by kernel_rfl) (fun _ _ _ h => h) (Or.inl ⟨by kernel_rfl, fun wy hy => by (go_simp; done)⟩) (by assumption) ?_
    try simp only [Act.put, List.setIfInBounds_toArray, List.set_cons_zero, List.set_cons_succ]
    refine wpAnyH_take (i := 17) (oi := { dst := some 6, op := _, type := _, pos := _, after := _, guard := _ }) (v := .bool Y) rfl (by kernel_rfl) (by kernel_rfl) (by kernel_rfl) (fun _ _ _ h => h) (Or.inl ⟨by kernel_rfl, fun wy hy => by (go_simp; done)⟩) (by assumption) ?_
    try simp only [Act.put, List.setIfInBounds_toArray, List.set_cons_zero, List.set_cons_succ]
    refine wpAnyH_done (by kernel_rfl) (NoPanic.normal ?_) _
    have HB4 := Lib.hid hb22
    clear hb22 hHeld
    go_simp
    go_step
    have hf : FB = Y := by
      rw [HFB.out, HY.out]
      unfold fitB fitP
      have e1 : ordC L K < 0 := by rw [← HO.out]; omega
      have e2 := HOk.out
      simp only [e1, e2, hz, true_and, ne_eq, not_true_eq_false, false_implies, and_true, true_implies, ← HWd.out]
      rw [Bool.eq_iff_iff]
      simp
      omega
    go_wp2
    go_ret
    exact ⟨by rw [hf]; rfl, HA3.out.trans (HB4.out.mono HA3.out.size)⟩
  | false =>
    have hz : ¬ nu % r = 0 := by have := HZ.out; simpa using this.symm
    have HPc := Lib.hid (fun wx (h : Below X3.heap.size X3 wx) => common_any (HL3.out.later h) (HK3.out.later h))
    obtain ⟨cm, hcm⟩ : ∃ cm, cm = comL L K := ⟨_, rfl⟩
    rw [← hcm] at HPc
    obtain ⟨Y, hY⟩ : ∃ Y : Bool, Y = ((sh : Int) == (cm : Int)) := ⟨_, rfl⟩
    have HY := Lib.hid hY
    have HCm := Lib.hid hcm
    clear hcm hY
    go_upto_region 5 with fail
    refine wp_region_noPanic ?_
    refine wp_region_held_drew (S := fun wx => Below X3.heap.size X3 wx) (by kernel_rfl) BD (fun hHeld => ?_)
    refine wpAnyH_take (i := 0) (oi := { dst := some 43, op := _, type := _, pos := _, after := _, guard := _ }) (v := .pointer (some ⟨w.heap.size, 2, none⟩)) rfl (by kernel_rfl) (by kernel_rfl) (by kernel_rfl) (fun _ _ _ h => h) (Or.inl ⟨by kernel_rfl, fun wy hy => by (go_simp; done)⟩) (by assumption) ?_
    try simp only [Act.put, List.setIfInBounds_toArray, List.set_cons_zero, List.set_cons_succ]
    refine wpAnyH_take (i := 1) (oi := { dst := some 44, op := _, type := _, pos := _, after := _, guard := _ }) (v := .int .i64 (sh : Int)) rfl (by kernel_rfl) (by kernel_rfl) (by kernel_rfl) (fun _ _ _ h => h) (Or.inl ⟨by kernel_rfl, fun wy hy => by (obtain ⟨q0, q1, q2, q3, q4⟩ := (HIb3.out.later hy).cells; go_simp; done)⟩) (by assumption) ?_
    try simp only [Act.put, List.setIfInBounds_toArray, List.set_cons_zero, List.set_cons_succ]
    refine wpAnyH_take (i := 2) (oi := { dst := some 45, op := _, type := _, pos := _, after := _, guard := _ }) (v := .slice al nl cl) rfl (by kernel_rfl) (by kernel_rfl) (by kernel_rfl) (fun _ _ _ h => h) (Or.inl ⟨by kernel_rfl, fun wy hy => by (go_simp; done)⟩) (by assumption) ?_
    try simp only [Act.put, List.setIfInBounds_toArray, List.set_cons_zero, List.set_cons_succ]
    refine wpAnyH_take (i := 3) (oi := { dst := some 46, op := _, type := _, pos := _, after := _, guard := _ }) (v := .pointer (some ⟨w.heap.size, 3, none⟩)) rfl (by kernel_rfl) (by kernel_rfl) (by kernel_rfl) (fun _ _ _ h => h) (Or.inl ⟨by kernel_rfl, fun wy hy => by (go_simp; done)⟩) (by assumption) ?_
    try simp only [Act.put, List.setIfInBounds_toArray, List.set_cons_zero, List.set_cons_succ]
    refine wpAnyH_take (i := 4) (oi := { dst := some 47, op := _, type := _, pos := _, after := _, guard := _ }) (v := .slice ak kn kc) rfl (by kernel_rfl) (by kernel_rfl) (by kernel_rfl) (fun _ _ _ h => h) (Or.inl ⟨by kernel_rfl, fun wy hy => by (obtain ⟨q0, q1, q2, q3, q4⟩ := (HIb3.out.later hy).cells; go_simp; done)⟩) (by assumption) ?_
    try simp only [Act.put, List.setIfInBounds_toArray, List.set_cons_zero, List.set_cons_succ]
    refine wpAnyH_ready (rs := [5]) (by kernel_rfl) (by simp) ?_
    refine AllReadyH.cons (o := { dst := some 48, op := _, type := _, pos := _, after := _, guard := _ }) rfl (fun KK hK => ?_) AllReadyH.nil
    go_simp
    go_at_call 40
    refine (HPc.out _ BD).mono ?_
    rintro e1 X4 ⟨rfl, hb2⟩
    have hb22 : Below X3.heap.size X3 X4 := BD.trans hb2
    clear hb2 BD HPc
    go_wp2_with fail
    refine hK.out _ _ hb22 (fun hHeld => ?_)
    clear hK
    try simp only [Act.put, List.setIfInBounds_toArray, List.set_cons_zero, List.set_cons_succ]
    refine wpAnyH_take (i := 6) (oi := { dst := some 49, op := _, type := _, pos := _, after := _, guard := _ }) (v := .bool Y) rfl (by kernel_rfl) (by kernel_rfl) (by kernel_rfl) (fun _ _ _ h => h) (Or.inl ⟨by kernel_rfl, fun wy hy => by (go_simp; exact HY.out.symm)⟩) (by assumption) ?_
    try simp only [Act.put, List.setIfInBounds_toArray, List.set_cons_zero, List.set_cons_succ]
    refine wpAnyH_take (i := 7) (oi := { dst := some 6, op := _, type := _, pos := _, after := _, guard := _ }) (v := .bool Y) rfl (by kernel_rfl) (by kernel_rfl) (by kernel_rfl) (fun _ _ _ h => h) (Or.inl ⟨by kernel_rfl, fun wy hy => by (go_simp; done)⟩) (by assumption) ?_
    try simp only [Act.put, List.setIfInBounds_toArray, List.set_cons_zero, List.set_cons_succ]
    refine wpAnyH_done (by kernel_rfl) (NoPanic.normal ?_) _
    have HB4 := Lib.hid hb22
    clear hb22 hHeld
    go_simp
    go_step
    have hf : FB = Y := by
      rw [HFB.out, HY.out]
      unfold fitB fitP
      have e1 : ordC L K < 0 := by rw [← HO.out]; omega
      have e2 := HOk.out
      simp only [e1, e2, hz, true_and, ne_eq, not_false_eq_true, false_implies, true_implies, ← HCm.out]
      rw [Bool.eq_iff_iff]
      simp
      omega
    go_wp2
    go_ret
    exact ⟨by rw [hf]; rfl, HA3.out.trans (HB4.out.mono HA3.out.size)⟩
end Go.Proofs.YtdkolihakmnpiaaDoor
