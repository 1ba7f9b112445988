import Derived.Test.YtemdhpjoakldhaaJ03
import Derived.Test.YtemdhpjoakldhaaJ04
import Derived.Deep.RegionHeld3
namespace Go.Proofs.Ytemdhpjoakldhaa
open Go.RowKit
set_option linter.unusedVariables false

theorem one_trip (x : Nat) (pre rest : List Nat) : oneR (pre ++ ([x] ++ rest)) pre.length = (x, pre.length + 1, false) := by
  rw [oneR_in _ _ (by simp)]
  simp [List.getD]
theorem ord_at {bs pre rest l : List Nat} {k : Nat} (h : bs = pre ++ (ordL l ++ rest)) (hk : k = pre.length) : ordR bs k = (l, k + (ordL l).length, 0) := by
  subst h hk; exact ord_trip _ _ _
theorem fall_at' {bs pre rest : List Nat} {k n : Nat} (hn : n < 9223372036854775808) (h : bs = pre ++ (be8 (9223372036854775807 - n) ++ rest)) (hk : k = pre.length) : fallR bs k = (n, k + 8, 0) := by
  subst h hk; exact fall_trip n hn _ _
theorem one_at' {bs pre rest : List Nat} {k x : Nat} (h : bs = pre ++ ([x] ++ rest)) (hk : k = pre.length) : oneR bs k = (x, k + 1, false) := by
  subst h hk; exact one_trip _ _ _

/-- What a key reads as, not of a family's tombstone. -/
theorem reads_plain {D : EntD} (hc : checkS D = 0) (hk : D.kind ≠ 5) : ∃ p1 p2 p3 p4 p5 p6 p7, ordR (keyL D) 0 = (D.row, p1, 0) ∧ oneR (keyL D) p1 = (D.fam.toNat, p2, false) ∧ oneR (keyL D) p2 = (1, p3, false) ∧ ordR (keyL D) p3 = (D.qual, p4, 0) ∧ oneR (keyL D) p4 = (mark D.kind 4, p5, false) ∧ fallR (keyL D) p5 = (D.ts.toNat, p6, 0) ∧ fallR (keyL D) p6 = (D.seq.toNat, p7, 0) ∧ oneR (keyL D) p7 = (D.kind.toNat, (keyL D).length, false) := by
  obtain ⟨_, f, _, _, t, s, k, _⟩ := check_facts hc
  have e := keyL_parts D
  rw [if_neg hk] at e
  have m5 : mark D.kind 5 = 1 := by simp [mark, hk]
  rw [m5] at e
  generalize keyL D = bs at e
  have q1 := ord_at (bs := bs) (l := D.row) (k := 0) (pre := []) (rest := ([D.fam.toNat] ++ ([1] ++ (ordL D.qual ++ ([mark D.kind 4] ++ (be8 (9223372036854775807 - D.ts.toNat) ++ (be8 (9223372036854775807 - D.seq.toNat) ++ ([D.kind.toNat] ++ [])))))))) (by rw [e]; simp) (by first | (simp; done) | (simp; omega) | (simp [be8]; done) | (simp [be8]; omega))
  have q2 := one_at' (bs := bs) (x := D.fam.toNat) (k := 0 + (ordL D.row).length) (pre := ordL D.row) (rest := ([1] ++ (ordL D.qual ++ ([mark D.kind 4] ++ (be8 (9223372036854775807 - D.ts.toNat) ++ (be8 (9223372036854775807 - D.seq.toNat) ++ ([D.kind.toNat] ++ []))))))) (by rw [e]; simp) (by first | (simp; done) | (simp; omega) | (simp [be8]; done) | (simp [be8]; omega))
  have q3 := one_at' (bs := bs) (x := 1) (k := 0 + (ordL D.row).length + 1) (pre := ordL D.row ++ [D.fam.toNat]) (rest := (ordL D.qual ++ ([mark D.kind 4] ++ (be8 (9223372036854775807 - D.ts.toNat) ++ (be8 (9223372036854775807 - D.seq.toNat) ++ ([D.kind.toNat] ++ [])))))) (by rw [e]; simp) (by first | (simp; done) | (simp; omega) | (simp [be8]; done) | (simp [be8]; omega))
  have q4 := ord_at (bs := bs) (l := D.qual) (k := 0 + (ordL D.row).length + 1 + 1) (pre := ordL D.row ++ [D.fam.toNat] ++ [1]) (rest := ([mark D.kind 4] ++ (be8 (9223372036854775807 - D.ts.toNat) ++ (be8 (9223372036854775807 - D.seq.toNat) ++ ([D.kind.toNat] ++ []))))) (by rw [e]; simp) (by first | (simp; done) | (simp; omega) | (simp [be8]; done) | (simp [be8]; omega))
  have q5 := one_at' (bs := bs) (x := mark D.kind 4) (k := 0 + (ordL D.row).length + 1 + 1 + (ordL D.qual).length) (pre := ordL D.row ++ [D.fam.toNat] ++ [1] ++ ordL D.qual) (rest := (be8 (9223372036854775807 - D.ts.toNat) ++ (be8 (9223372036854775807 - D.seq.toNat) ++ ([D.kind.toNat] ++ [])))) (by rw [e]; simp) (by first | (simp; done) | (simp; omega) | (simp [be8]; done) | (simp [be8]; omega))
  have q6 := fall_at' (bs := bs) (n := D.ts.toNat) (k := 0 + (ordL D.row).length + 1 + 1 + (ordL D.qual).length + 1) (pre := ordL D.row ++ [D.fam.toNat] ++ [1] ++ ordL D.qual ++ [mark D.kind 4]) (rest := (be8 (9223372036854775807 - D.seq.toNat) ++ ([D.kind.toNat] ++ []))) (by omega) (by rw [e]; simp) (by first | (simp; done) | (simp; omega) | (simp [be8]; done) | (simp [be8]; omega))
  have q7 := fall_at' (bs := bs) (n := D.seq.toNat) (k := 0 + (ordL D.row).length + 1 + 1 + (ordL D.qual).length + 1 + 8) (pre := ordL D.row ++ [D.fam.toNat] ++ [1] ++ ordL D.qual ++ [mark D.kind 4] ++ be8 (9223372036854775807 - D.ts.toNat)) (rest := ([D.kind.toNat] ++ [])) (by omega) (by rw [e]; simp) (by first | (simp; done) | (simp; omega) | (simp [be8]; done) | (simp [be8]; omega))
  have q8 := one_at' (bs := bs) (x := D.kind.toNat) (k := 0 + (ordL D.row).length + 1 + 1 + (ordL D.qual).length + 1 + 8 + 8) (pre := ordL D.row ++ [D.fam.toNat] ++ [1] ++ ordL D.qual ++ [mark D.kind 4] ++ be8 (9223372036854775807 - D.ts.toNat) ++ be8 (9223372036854775807 - D.seq.toNat)) (rest := []) (by rw [e]; simp) (by first | (simp; done) | (simp; omega) | (simp [be8]; done) | (simp [be8]; omega))
  have l8 : 0 + (ordL D.row).length + 1 + 1 + (ordL D.qual).length + 1 + 8 + 8 + 1 = bs.length := by rw [e]; first | (simp [be8]; done) | (simp [be8]; omega)
  rw [l8] at q8
  exact ⟨_, _, _, _, _, _, _, q1, q2, q3, q4, q5, q6, q7, q8⟩
/-- Of a family's tombstone. -/
theorem reads_fam {D : EntD} (hc : checkS D = 0) (hk : D.kind = 5) : ∃ p1 p2 p3 p6 p7, ordR (keyL D) 0 = (D.row, p1, 0) ∧ oneR (keyL D) p1 = (D.fam.toNat, p2, false) ∧ oneR (keyL D) p2 = (0, p3, false) ∧ fallR (keyL D) p3 = (D.ts.toNat, p6, 0) ∧ fallR (keyL D) p6 = (D.seq.toNat, p7, 0) ∧ oneR (keyL D) p7 = (D.kind.toNat, (keyL D).length, false) := by
  obtain ⟨_, f, _, _, t, s, k, _⟩ := check_facts hc
  have e := keyL_parts D
  rw [if_pos hk] at e
  have m5 : mark D.kind 5 = 0 := by simp [mark, hk]
  rw [m5] at e
  generalize keyL D = bs at e
  have q1 := ord_at (bs := bs) (l := D.row) (k := 0) (pre := []) (rest := ([D.fam.toNat] ++ ([0] ++ (be8 (9223372036854775807 - D.ts.toNat) ++ (be8 (9223372036854775807 - D.seq.toNat) ++ ([D.kind.toNat] ++ [])))))) (by rw [e]; simp) (by first | (simp; done) | (simp; omega) | (simp [be8]; done) | (simp [be8]; omega))
  have q2 := one_at' (bs := bs) (x := D.fam.toNat) (k := 0 + (ordL D.row).length) (pre := ordL D.row) (rest := ([0] ++ (be8 (9223372036854775807 - D.ts.toNat) ++ (be8 (9223372036854775807 - D.seq.toNat) ++ ([D.kind.toNat] ++ []))))) (by rw [e]; simp) (by first | (simp; done) | (simp; omega) | (simp [be8]; done) | (simp [be8]; omega))
  have q3 := one_at' (bs := bs) (x := 0) (k := 0 + (ordL D.row).length + 1) (pre := ordL D.row ++ [D.fam.toNat]) (rest := (be8 (9223372036854775807 - D.ts.toNat) ++ (be8 (9223372036854775807 - D.seq.toNat) ++ ([D.kind.toNat] ++ [])))) (by rw [e]; simp) (by first | (simp; done) | (simp; omega) | (simp [be8]; done) | (simp [be8]; omega))
  have q6 := fall_at' (bs := bs) (n := D.ts.toNat) (k := 0 + (ordL D.row).length + 1 + 1) (pre := ordL D.row ++ [D.fam.toNat] ++ [0]) (rest := (be8 (9223372036854775807 - D.seq.toNat) ++ ([D.kind.toNat] ++ []))) (by omega) (by rw [e]; simp) (by first | (simp; done) | (simp; omega) | (simp [be8]; done) | (simp [be8]; omega))
  have q7 := fall_at' (bs := bs) (n := D.seq.toNat) (k := 0 + (ordL D.row).length + 1 + 1 + 8) (pre := ordL D.row ++ [D.fam.toNat] ++ [0] ++ be8 (9223372036854775807 - D.ts.toNat)) (rest := ([D.kind.toNat] ++ [])) (by omega) (by rw [e]; simp) (by first | (simp; done) | (simp; omega) | (simp [be8]; done) | (simp [be8]; omega))
  have q8 := one_at' (bs := bs) (x := D.kind.toNat) (k := 0 + (ordL D.row).length + 1 + 1 + 8 + 8) (pre := ordL D.row ++ [D.fam.toNat] ++ [0] ++ be8 (9223372036854775807 - D.ts.toNat) ++ be8 (9223372036854775807 - D.seq.toNat)) (rest := []) (by rw [e]; simp) (by first | (simp; done) | (simp; omega) | (simp [be8]; done) | (simp [be8]; omega))
  have l8 : 0 + (ordL D.row).length + 1 + 1 + 8 + 8 + 1 = bs.length := by rw [e]; first | (simp [be8]; done) | (simp [be8]; omega)
  rw [l8] at q8
  exact ⟨_, _, _, _, _, q1, q2, q3, q6, q7, q8⟩

theorem seg_join {bs : List Nat} {i j k : Nat} (h1 : i ≤ j) (h2 : j ≤ k) (h3 : k ≤ bs.length) : (bs.take j).drop i ++ (bs.take k).drop j = (bs.take k).drop i := by
  apply List.ext_getElem?
  intro n
  by_cases hn : n < j - i
  · rw [List.getElem?_append_left (by simp; omega)]
    rw [List.getElem?_drop, List.getElem?_drop, List.getElem?_take_of_lt (by omega), List.getElem?_take_of_lt (by omega)]
  · rw [List.getElem?_append_right (by simp; omega), List.getElem?_drop, List.getElem?_drop]
    congr 1
    simp
    omega
theorem one_back {bs : List Nat} {k x P : Nat} (hk : k ≤ bs.length) (h : oneR bs k = (x, P, false)) : [x] = (bs.take P).drop k ∧ k ≤ P ∧ P ≤ bs.length := by
  unfold oneR at h
  split at h
  · simp at h
  · simp only [Prod.mk.injEq] at h
    obtain ⟨rfl, rfl, _⟩ := h
    have hlt : k < bs.length := by omega
    refine ⟨?_, by omega, by omega⟩
    rw [List.drop_take, show k + 1 - k = 1 by omega, drop_cons bs k hlt]
    rfl
theorem fall_back {bs : List Nat} {k V P : Nat} (hb : Bys bs) (h : fallR bs k = (V, P, 0)) : be8 (9223372036854775807 - V) = (bs.take P).drop k ∧ k ≤ P ∧ P ≤ bs.length := by
  unfold fallR at h
  split at h
  · rename_i h1
    simp only [Prod.mk.injEq] at h
    exact absurd h.2.2 h1
  · rename_i h1
    simp only [Prod.mk.injEq] at h
    obtain ⟨h2, h3, _⟩ := h
    have e : riseR bs k = ((riseR bs k).1, P, 0) := by
      rw [← h3]
      ext
      · rfl
      · rfl
      · simpa using h1
    obtain ⟨r1, r2, r3, r4⟩ := rise_back hb e
    refine ⟨?_, by omega, r3⟩
    rw [← r1]
    congr 1
    omega

/-- What was read, written again. -/
theorem back_plain {bs row qual : List Nat} {p1 p2 p3 p4 p5 p6 p7 p8 fam fm cm ts sq kd : Nat} (hb : Bys bs)
    (q1 : ordR bs 0 = (row, p1, 0)) (q2 : oneR bs p1 = (fam, p2, false)) (q3 : oneR bs p2 = (fm, p3, false)) (hfm : fm ≠ 0) (q4 : ordR bs p3 = (qual, p4, 0)) (q5 : oneR bs p4 = (cm, p5, false))
    (q6 : fallR bs p5 = (ts, p6, 0)) (q7 : fallR bs p6 = (sq, p7, 0)) (q8 : oneR bs p7 = (kd, p8, false)) (m5 : fm = mark kd 5) (m4 : cm = mark kd 4) (hp : p8 = bs.length) (vr vq vv : Value) (val : List Nat) :
    keyL ⟨vr, (fam : Int), vq, (ts : Int), (sq : Int), (kd : Int), vv, row, qual, val⟩ = bs := by
  obtain ⟨r1, s1, t1⟩ := ord_back (Nat.zero_le _) q1
  obtain ⟨r2, s2, t2⟩ := one_back t1 q2
  obtain ⟨r3, s3, t3⟩ := one_back t2 q3
  obtain ⟨r4, s4, t4⟩ := ord_back t3 q4
  obtain ⟨r5, s5, t5⟩ := one_back t4 q5
  obtain ⟨r6, s6, t6⟩ := fall_back hb q6
  obtain ⟨r7, s7, t7⟩ := fall_back hb q7
  obtain ⟨r8, s8, t8⟩ := one_back t7 q8
  have hk : ¬ ((kd : Int) = 5) := by
    intro h
    apply hfm
    rw [m5]
    simp [mark, h]
  rw [keyL_parts]
  simp only [Int.toNat_natCast]
  rw [if_neg hk, ← m5, ← m4, r1, r2, r3, r4, r5, r6, r7, r8, List.append_nil, List.append_assoc]
  rw [seg_join s7 s8 t8, seg_join s6 (by omega) t8, seg_join s5 (by omega) t8, seg_join (by omega) (by omega) t8, seg_join s3 (by omega) t8, seg_join s2 (by omega) t8, seg_join (by omega) (by omega) t8]
  rw [hp]
  simp
theorem back_fam {bs row : List Nat} {p1 p2 p3 p6 p7 p8 fam ts sq kd : Nat} (hb : Bys bs)
    (q1 : ordR bs 0 = (row, p1, 0)) (q2 : oneR bs p1 = (fam, p2, false)) (q3 : oneR bs p2 = (0, p3, false))
    (q6 : fallR bs p3 = (ts, p6, 0)) (q7 : fallR bs p6 = (sq, p7, 0)) (q8 : oneR bs p7 = (kd, p8, false)) (m5 : 0 = mark kd 5) (hp : p8 = bs.length) (vr vq vv : Value) (val : List Nat) :
    keyL ⟨vr, (fam : Int), vq, (ts : Int), (sq : Int), (kd : Int), vv, row, [], val⟩ = bs := by
  obtain ⟨r1, s1, t1⟩ := ord_back (Nat.zero_le _) q1
  obtain ⟨r2, s2, t2⟩ := one_back t1 q2
  obtain ⟨r3, s3, t3⟩ := one_back t2 q3
  obtain ⟨r6, s6, t6⟩ := fall_back hb q6
  obtain ⟨r7, s7, t7⟩ := fall_back hb q7
  obtain ⟨r8, s8, t8⟩ := one_back t7 q8
  have hk : (kd : Int) = 5 := by
    by_cases h : (kd : Int) = 5
    · exact h
    · simp [mark, h] at m5
  rw [keyL_parts]
  simp only [Int.toNat_natCast]
  rw [if_pos hk, ← m5, r1, r2, r3, r6, r7, r8, List.append_nil, List.nil_append]
  rw [seg_join s7 s8 t8, seg_join s6 (by omega) t8, seg_join s3 (by omega) t8, seg_join s2 (by omega) t8, seg_join (by omega) (by omega) t8]
  rw [hp]
  simp

end Go.Proofs.Ytemdhpjoakldhaa

namespace Go.Proofs.Ytemdhpjoakldhaa
open Go.RowKit
set_option linter.unusedVariables false

theorem rord_ok : ∀ (m : Nat) (l acc : List Nat) (i : Nat), l.length ≤ m → Bys l → Bys acc → Bys (rord l acc i).1 ∧ (rord l acc i).1.length ≤ acc.length + l.length := by
  intro m
  induction m with
  | zero =>
    intro l acc i hl hb ha
    obtain rfl : l = [] := List.eq_nil_of_length_eq_zero (by omega)
    rw [rord_nil]
    exact ⟨fun x hx => by simp at hx, by simp⟩
  | succ m ih =>
    intro l acc i hl hb ha
    cases l with
    | nil => rw [rord_nil]; exact ⟨fun x hx => by simp at hx, by simp⟩
    | cons c r =>
      by_cases hc : c = 0
      · subst hc
        cases r with
        | nil => exact ⟨fun x hx => by simp [rord] at hx, by simp [rord]⟩
        | cons d r =>
          rw [rord_zero]
          split
          · exact ⟨ha, by simp⟩
          · split
            · obtain ⟨h1, h2⟩ := ih r (acc ++ [0]) (i + 2) (by simp at hl; omega) (fun x hx => hb x (by simp [hx])) (ha.app (fun x hx => by simp at hx; omega))
              exact ⟨h1, by simp at h2 ⊢; omega⟩
            · exact ⟨fun x hx => by simp at hx, by simp⟩
      · rw [rord_step _ _ _ _ hc]
        obtain ⟨h1, h2⟩ := ih r (acc ++ [c]) (i + 1) (by simp at hl; omega) (fun x hx => hb x (by simp [hx])) (ha.app (fun x hx => by simp at hx; subst hx; exact hb _ (by simp)))
        exact ⟨h1, by simp at h2 ⊢; omega⟩
theorem ordR_ok (bs : List Nat) (k : Nat) (hb : Bys bs) : Bys (ordR bs k).1 ∧ (ordR bs k).1.length ≤ bs.length := by
  obtain ⟨h1, h2⟩ := rord_ok _ (bs.drop k) [] 0 (Nat.le_refl _) (fun x hx => hb x (List.mem_of_mem_drop hx)) (fun x hx => by simp at hx)
  exact ⟨h1, by have : (ordR bs k).1 = (rord (bs.drop k) [] 0).1 := rfl; rw [this]; simp at h2; omega⟩

end Go.Proofs.Ytemdhpjoakldhaa

namespace Go.Proofs.Ytemdhpjoakldhaa
open Go.RowKit
set_option linter.unusedVariables false

/-- Some entry has this key. -/
def IsKey (bs : List Nat) : Prop := ∃ D : EntD, checkS D = 0 ∧ D.val = [] ∧ keyL D = bs
theorem checkS_eq {D : EntD} (hc : checkS D = 0) (hv : D.val = []) (a b c : Value) : checkS ⟨a, ((D.fam.toNat : Nat) : Int), b, ((D.ts.toNat : Nat) : Int), ((D.seq.toNat : Nat) : Int), ((D.kind.toNat : Nat) : Int), c, D.row, D.qual, []⟩ = 0 := by
  obtain ⟨_, f, _, _, t, s, k, _⟩ := check_facts hc
  have e : checkS ⟨a, ((D.fam.toNat : Nat) : Int), b, ((D.ts.toNat : Nat) : Int), ((D.seq.toNat : Nat) : Int), ((D.kind.toNat : Nat) : Int), c, D.row, D.qual, []⟩ = checkS D := by
    unfold checkS
    simp only [Int.toNat_of_nonneg f.1, Int.toNat_of_nonneg (show 0 ≤ D.ts by omega), Int.toNat_of_nonneg s.1, Int.toNat_of_nonneg (show 0 ≤ D.kind by omega), hv]
  rw [e, hc]

theorem mark_toNat {k : Int} (h : 0 ≤ k) (a : Int) : mark ((k.toNat : Nat) : Int) a = mark k a := by rw [Int.toNat_of_nonneg h]
/-- What ParseKey answers of any bytes. -/
def ParsedAs (w w' : World) (r : Ending) (bs : List Nat) : Prop :=
  Below w.heap.size w w' ∧
  ((∃ D : EntD, checkS D = 0 ∧ D.val = [] ∧ keyL D = bs ∧ Bys D.row ∧ Bys D.qual ∧ D.vv = .slice none 0 0 ∧ r = .returned (.tuple #[.agg D.cells, .int .i64 0]) ∧ Own w' w.heap.size D.vr D.row.length D.row ∧ ∃ B, w.heap.size ≤ B ∧ Own w' B D.vq D.qual.length D.qual ∧ ∀ k, D.vr.ownBlock = some k → k < B) ∨
   (¬ IsKey bs ∧ r = .returned (.tuple #[.agg #[.slice none 0 0, .int .i64 0, .slice none 0 0, .int .i64 0, .int .i64 0, .int .i64 0, .slice none 0 0], .int .i64 27])))

end Go.Proofs.Ytemdhpjoakldhaa

namespace Go.Proofs.Ytemdhpjoakldhaa
open Go.RowKit
set_option linter.unusedVariables false

/-- append(own, x...), at an operation. -/
theorem appendR {w : World} {o : Oper} {a : Act} {K : Act → World → Prop} {Q : Exit → Act → World → Prop} (s x : Operand)
    (ho : o.op = .call { callee := .builtin .append, args := #[s, x], argTypes := #[36, 36] })
    (B : Nat) (a0 : Option Addr) (m0 c0 : Nat) (acc : List Nat) (hs : a.eval s = .slice a0 m0 c0) (hown : Own w B (.slice a0 m0 c0) m0 acc)
    (ad : Addr) (m c : Nat) (bs : List Nat) (hx : a.eval x = .slice (some ad) m c) (hrd : Rd w (.slice (some ad) m c) bs)
    (hbytes : m0 + m ≤ 140737488355328) (hB : B ≤ w.heap.size)
    (h : ∀ a' m' c' w', Own w' B (.slice a' m' c') m' (acc ++ bs) → Below B w w' → K (a.put o.dst (.slice a' m' c')) w') : o.wp Try.prog a w K Q := by
  obtain ⟨i0, hi, hz0, hz1, hz2⟩ := info_parts info_byte
  obtain ⟨hby, a1, c1, h2, hle, hm, hl48, hnone, hat⟩ := hrd
  simp only [Value.slice.injEq] at h2
  obtain ⟨rfl, rfl, rfl⟩ := h2
  refine wp_append_own _ s x 36 ho B 5 i0 (.int .u8 0) 1 1 und_bytes hi hz0 hz1 hz2 rfl (by decide) _ m0 (bv acc) hs hown.2 ad bs.length c (bv bs) hx (by simp [bv]) hat.add (bv_oneCell bs) (by unfold maxLen; omega) (by omega) hB ?_
  intro v' w' h1 h2 _
  obtain ⟨a', c', rfl⟩ := own_form h1
  refine h a' _ c' w' ⟨by rw [hown.1]; simp, by simpa [bv] using h1⟩ ((Below.refl B w).grown h2 hB (fun k hk => (hown.2.lt k hk).1))
theorem bytesL_pos (l : List Nat) : 1 ≤ (bytesL l).length := by
  have := uintL_len l.length
  simp [bytesL]; omega
theorem bytesL_bys {l : List Nat} (h : Bys l) (hl : l.length < 18446744073709551616) : Bys (bytesL l) := Bys.app (uintL_bys _ hl) h
theorem bytesL_le (l : List Nat) : (bytesL l).length ≤ l.length + 10 := by
  have := uintL_len l.length
  simp [bytesL]; omega
theorem own_some {w : World} {B m c : Nat} {a : Option Addr} {xs : List Nat} (h : Own w B (.slice a m c) m xs) (hp : 1 ≤ xs.length) : ∃ ad, a = some ad := by
  rcases h.2.2 with ⟨h1, h2⟩ | ⟨g, cap, cur, h1, _⟩
  · have := h.1; omega
  · simp only [Value.slice.injEq] at h1
    exact ⟨_, h1.1⟩

/-- What Pack writes. -/
def packL (e : EntD) : List Nat := bytesL (keyL e) ++ bytesL e.val

/-- The data are the same. -/
def EntD.Same (a b : EntD) : Prop := a.fam = b.fam ∧ a.ts = b.ts ∧ a.seq = b.seq ∧ a.kind = b.kind ∧ a.row = b.row ∧ a.qual = b.qual ∧ a.val = b.val
theorem EntD.Same.symm {a b : EntD} (h : EntD.Same a b) : EntD.Same b a := ⟨h.1.symm, h.2.1.symm, h.2.2.1.symm, h.2.2.2.1.symm, h.2.2.2.2.1.symm, h.2.2.2.2.2.1.symm, h.2.2.2.2.2.2.symm⟩

end Go.Proofs.Ytemdhpjoakldhaa

namespace Go.Proofs.Ytemdhpjoakldhaa
open Go.RowKit
set_option linter.unusedVariables false

/-- Three comparisons that fit. -/
def Tri (a b c : Int) : Prop := (a ≤ 0 ∧ b ≤ 0 → c ≤ 0) ∧ (0 ≤ a ∧ 0 ≤ b → 0 ≤ c) ∧ (a ≤ 0 ∧ b ≤ 0 ∧ c = 0 → a = 0 ∧ b = 0) ∧ (0 ≤ a ∧ 0 ≤ b ∧ c = 0 → a = 0 ∧ b = 0) ∧ (a = 0 → c = b) ∧ (b = 0 → c = a)
theorem tri_cmpI (x y z : Int) : Tri (cmpI x y) (cmpI y z) (cmpI x z) := by
  unfold Tri cmpI
  repeat' split
  all_goals omega
theorem tri_lex {a b c a' b' c' : Int} (h : Tri a b c) (k : Tri a' b' c') : Tri (if a = 0 then a' else a) (if b = 0 then b' else b) (if c = 0 then c' else c) := by
  unfold Tri at *
  obtain ⟨h1, h2, h3, h4, h5, h6⟩ := h
  by_cases ha : a = 0
  · by_cases hb : b = 0
    · have hc : c = 0 := by rw [h5 ha]; exact hb
      rw [if_pos ha, if_pos hb, if_pos hc]; exact k
    · have hc : c = b := h5 ha
      have hc0 : ¬ c = 0 := by omega
      rw [if_pos ha, if_neg hb, if_neg hc0]
      refine ⟨?_, ?_, ?_, ?_, ?_, ?_⟩ <;> omega
  · by_cases hb : b = 0
    · have hc : c = a := h6 hb
      have hc0 : ¬ c = 0 := by omega
      rw [if_neg ha, if_pos hb, if_neg hc0]
      refine ⟨?_, ?_, ?_, ?_, ?_, ?_⟩ <;> omega
    · rw [if_neg ha, if_neg hb]
      by_cases hc : c = 0
      · rw [if_pos hc]
        have e1 : ¬ (a ≤ 0 ∧ b ≤ 0) := fun e => ha (h3 ⟨e.1, e.2, hc⟩).1
        have e2 : ¬ (0 ≤ a ∧ 0 ≤ b) := fun e => ha (h4 ⟨e.1, e.2, hc⟩).1
        refine ⟨?_, ?_, ?_, ?_, ?_, ?_⟩ <;> omega
      · rw [if_neg hc]; exact ⟨h1, h2, h3, h4, h5, h6⟩
theorem tri_zero : Tri 0 0 0 := by unfold Tri; omega
theorem ordC_cons (x y : Nat) (a b : List Nat) : ordC (x :: a) (y :: b) = if cmpI (x : Int) (y : Int) = 0 then ordC a b else cmpI (x : Int) (y : Int) := by
  have e : ordC (x :: a) (y :: b) = if x < y then -1 else if y < x then 1 else ordC a b := rfl
  rw [e]
  unfold cmpI
  by_cases h1 : x < y
  · simp [h1]
  · by_cases h2 : y < x
    · have : ¬ (x : Int) < y := by omega
      simp [h1, h2]
    · simp [h1, h2]
theorem tri_ordC : ∀ (x y z : List Nat), Tri (ordC x y) (ordC y z) (ordC x z)
  | [], [], [] => by simp only [ordC]; exact tri_zero
  | [], [], _ :: _ => by simp only [ordC]; unfold Tri; omega
  | [], _ :: _, [] => by simp only [ordC]; unfold Tri; omega
  | [], y :: b, z :: c => by
    have h : ordC [] (y :: b) = -1 := rfl
    have h2 : ordC [] (z :: c) = -1 := rfl
    rw [h, h2]; unfold Tri; omega
  | _ :: _, [], [] => by simp only [ordC]; unfold Tri; omega
  | x :: a, [], z :: c => by
    have h : ordC (x :: a) [] = 1 := rfl
    have h2 : ordC [] (z :: c) = -1 := rfl
    rw [h, h2]; unfold Tri; omega
  | x :: a, y :: b, [] => by
    have h : ordC (y :: b) [] = 1 := rfl
    have h2 : ordC (x :: a) [] = 1 := rfl
    rw [h, h2]; unfold Tri; omega
  | x :: a, y :: b, z :: c => by
    rw [ordC_cons, ordC_cons, ordC_cons]
    exact tri_lex (tri_cmpI _ _ _) (tri_ordC a b c)
theorem cmpI_swap (a b : Int) : cmpI b a = -cmpI a b := by
  unfold cmpI
  repeat' split
  all_goals omega
theorem lex_neg {a a' b b' : Int} (h : b = -a) (k : b' = -a') : (if b = 0 then b' else b) = -(if a = 0 then a' else a) := by
  subst h k
  by_cases ha : a = 0
  · rw [if_pos ha, if_pos (by omega)]
  · rw [if_neg ha, if_neg (by omega)]
theorem compareS_tri (x y z : EntD) : Tri (compareS x y) (compareS y z) (compareS x z) := by
  unfold compareS cmpsS
  simp only [firstNZ]
  have rev : ∀ a b c : Int, Tri (cmpI b a) (cmpI c b) (cmpI c a) := fun a b c => by
    rw [cmpI_swap a b, cmpI_swap b c, cmpI_swap a c]
    have h := tri_cmpI a b c
    unfold Tri at *
    omega
  refine tri_lex (tri_ordC _ _ _) (tri_lex (tri_cmpI _ _ _) (tri_lex ?_ (tri_lex (tri_ordC _ _ _) (tri_lex ?_ (tri_lex (rev _ _ _) (tri_lex (rev _ _ _) (tri_lex (tri_cmpI _ _ _) tri_zero)))))))
  · exact tri_cmpI _ _ _
  · exact tri_cmpI _ _ _
theorem compareS_swap (x y : EntD) : compareS y x = -compareS x y := by
  unfold compareS cmpsS
  simp only [firstNZ]
  exact lex_neg (ordC_swap _ _) (lex_neg (cmpI_swap _ _) (lex_neg (cmpI_swap _ _) (lex_neg (ordC_swap _ _) (lex_neg (cmpI_swap _ _) (lex_neg (cmpI_swap _ _) (lex_neg (cmpI_swap _ _) (lex_neg (cmpI_swap _ _) (by omega))))))))
theorem compareS_self (x : EntD) : compareS x x = 0 := by
  have := compareS_swap x x
  omega
theorem lex_small {a b : Int} (h : -1 ≤ a ∧ a ≤ 1) (k : -1 ≤ b ∧ b ≤ 1) : -1 ≤ (if a = 0 then b else a) ∧ (if a = 0 then b else a) ≤ 1 := by split <;> assumption
theorem cmpI_small (a b : Int) : -1 ≤ cmpI a b ∧ cmpI a b ≤ 1 := by
  unfold cmpI
  by_cases h : a < b
  · rw [if_pos h]; omega
  · rw [if_neg h]
    by_cases h2 : b < a
    · rw [if_pos h2]; omega
    · rw [if_neg h2]; omega
theorem ordC_small : ∀ (a b : List Nat), -1 ≤ ordC a b ∧ ordC a b ≤ 1
  | [], [] => by simp [ordC]
  | [], _ :: _ => by simp [ordC]
  | _ :: _, [] => by simp [ordC]
  | x :: a, y :: b => by rw [ordC_cons]; exact lex_small (cmpI_small _ _) (ordC_small a b)
theorem compareS_small (x y : EntD) : -1 ≤ compareS x y ∧ compareS x y ≤ 1 := by
  unfold compareS cmpsS
  simp only [firstNZ]
  exact lex_small (ordC_small _ _) (lex_small (cmpI_small _ _) (lex_small (cmpI_small _ _) (lex_small (ordC_small _ _) (lex_small (cmpI_small _ _) (lex_small (cmpI_small _ _) (lex_small (cmpI_small _ _) (lex_small (cmpI_small _ _) (by omega))))))))
theorem compareS_same {a b c d : EntD} (h : EntD.Same a c) (k : EntD.Same b d) : compareS a b = compareS c d := by
  obtain ⟨h1, h2, h3, h4, h5, h6, h7⟩ := h
  obtain ⟨k1, k2, k3, k4, k5, k6, k7⟩ := k
  unfold compareS cmpsS aheadS
  rw [h1, h2, h3, h4, h5, h6, k1, k2, k3, k4, k5, k6]
end Go.Proofs.Ytemdhpjoakldhaa

namespace Go.Proofs.Ytemdhpjoakldhaa
open Go.RowKit
set_option linter.unusedVariables false

/-- Below, and what was drawn stays drawn. -/
structure BelowD (B : Nat) (w w' : World) : Prop where
  b : Below B w w'
  d : w.drawn ≤ w'.drawn
theorem BelowD.refl (B : Nat) (w : World) : BelowD B w w := ⟨Below.refl _ _, Nat.le_refl _⟩
theorem BelowD.trans {B : Nat} {a b c : World} (h : BelowD B a b) (k : BelowD B b c) : BelowD B a c := ⟨h.b.trans k.b, Nat.le_trans h.d k.d⟩
theorem BelowD.mono {B B' : Nat} {w w' : World} (h : BelowD B w w') (hB : B' ≤ B) : BelowD B' w w' := ⟨h.b.mono hB, h.d⟩
theorem BelowD.drew {B : Nat} {a w : World} (h : BelowD B a w) : BelowD B a w.drew := ⟨h.b.drew, Nat.le_trans h.d (Nat.le_succ _)⟩
theorem BelowD.alloc {B : Nat} {a w : World} (h : BelowD B a w) (hB : B ≤ w.heap.size) (o : Obj) : BelowD B a (w.alloc o) := ⟨h.b.alloc hB o, h.d⟩
theorem BelowD.size {B : Nat} {w w' : World} (h : BelowD B w w') : w.heap.size ≤ w'.heap.size := h.b.size

set_option maxRecDepth 100000 in
set_option maxHeartbeats 2000000 in
theorem aheadIf_d {a b : EntD} (k : Int) {w : World} :
    Calls Try.prog 87 #[.agg a.cells, .agg b.cells, .int .i64 k] w fun r w' => r = .returned (.int .i64 (aheadS a b k)) ∧ BelowD w.heap.size w w' := by
  obtain ⟨S, hS⟩ : ∃ S, S = aheadS a b k := ⟨_, rfl⟩
  rw [← hS]
  have HS : Hid (cmpI ((mark a.kind k : Nat) : Int) ((mark b.kind k : Nat) : Int) = S) := by unfold Hid; rw [hS]; rfl
  clear hS
  obtain ⟨M1, hM1⟩ : ∃ M, M = mark a.kind k := ⟨_, rfl⟩
  obtain ⟨M2, hM2⟩ : ∃ M, M = mark b.kind k := ⟨_, rfl⟩
  have q1 := fun w => markOf_m a.kind k w
  have q2 := fun w => markOf_m b.kind k w
  have q3 := fun w => cmpByte_any (M1 : Int) (M2 : Int) w
  rw [← hM1] at q1
  rw [← hM2] at q2
  have HS2 : cmpI (M1 : Int) (M2 : Int) = S := by rw [hM1, hM2]; exact HS.out
  rw [HS2] at q3
  have HQ1 : Hid (∀ w, Calls Try.prog 102 #[.int .i64 a.kind, .int .i64 k] w fun e w' => e = .returned (.int .u8 ((M1 : Nat) : Int)) ∧ w' = w) := q1
  have HQ2 : Hid (∀ w, Calls Try.prog 102 #[.int .i64 b.kind, .int .i64 k] w fun e w' => e = .returned (.int .u8 ((M2 : Nat) : Int)) ∧ w' = w) := q2
  have HQ3 : Hid (∀ w, Calls Try.prog 101 #[.int .u8 (M1 : Int), .int .u8 (M2 : Int)] w fun e w' => e = .returned (.int .i64 S) ∧ w' = w) := q3
  clear q1 q2 q3 hM1 hM2 HS HS2
  have A1 := (BelowD.refl w.heap.size w).alloc (Nat.le_refl _) (.cells a.cells 38)
  have A2 := A1.alloc A1.size (.cells b.cells 38)
  have bxa : Hid (EBox ((w.alloc (.cells a.cells 38)).alloc (.cells b.cells 38)) w.heap.size a) := (EBox.new w a).later ((Below.refl _ _).alloc (Nat.le_refl _) _)
  have bxb : Hid (EBox ((w.alloc (.cells a.cells 38)).alloc (.cells b.cells 38)) (w.heap.size + 1) b) := by
    have := EBox.new (w.alloc (.cells a.cells 38)) b
    rwa [World.size_alloc] at this
  have A2D : BelowD w.heap.size w ((w.alloc (.cells a.cells 38)).alloc (.cells b.cells 38)).drew := A2.drew
  have ya : ((w.alloc (.cells a.cells 38)).alloc (.cells b.cells 38)).drew.cell? ⟨w.heap.size, 5, none⟩ = some (.int .i64 a.kind) := bxa.out.kind
  have yb : ((w.alloc (.cells a.cells 38)).alloc (.cells b.cells 38)).drew.cell? ⟨w.heap.size + 1, 5, none⟩ = some (.int .i64 b.kind) := bxb.out.kind
  clear A1 bxa bxb
  obtain ⟨vr, fam, vq, ts, seq, ka, vv, row, qual, val⟩ := a
  obtain ⟨vr2, fam2, vq2, ts2, seq2, kb, vv2, row2, qual2, val2⟩ := b
  simp only [EntD.cells] at *
  go_enter Try.func87, Try.ntmps87
  go_wp2_with fail
  go_region_held3 (fun wx => wx.cell? ⟨w.heap.size, 5, none⟩ = some (.int .i64 ka) ∧ wx.cell? ⟨w.heap.size + 1, 5, none⟩ = some (.int .i64 kb) ∧ BelowD w.heap.size w wx) (first | exact ⟨ya, yb, A2D⟩) (first | (go_at_call 102; refine (HQ1.out _).mono ?_; rintro e1 wm ⟨rfl, rfl⟩) | (go_at_call 102; refine (HQ2.out _).mono ?_; rintro e1 wm ⟨rfl, rfl⟩) | (go_at_call 101; refine (HQ3.out _).mono ?_; rintro e1 wm ⟨rfl, rfl⟩))
  all_goals (go_wp2; go_ret; exact ⟨rfl, A2D⟩)

set_option maxRecDepth 100000 in
set_option maxHeartbeats 1000000 in
theorem ord1_d {a b : EntD} {w : World} (ha : EntD.Ok w a) (hb : EntD.Ok w b) :
    Calls Try.prog 82 #[.agg a.cells, .agg b.cells] w fun r w' => r = .returned (.int .i64 (ordC a.row b.row)) ∧ BelowD w.heap.size w w' := by
  have A1 := (BelowD.refl w.heap.size w).alloc (Nat.le_refl _) (.cells a.cells 38)
  have A2 := A1.alloc A1.size (.cells b.cells 38)
  have oa := ha.later A2.b
  have ob := hb.later A2.b
  clear A1 ha hb
  obtain ⟨vr, fam, vq, ts, seq, ka, vv, row, qual, val⟩ := a
  obtain ⟨vr2, fam2, vq2, ts2, seq2, kb, vv2, row2, qual2, val2⟩ := b
  obtain ⟨r1, q1, v1⟩ := oa
  obtain ⟨r2, q2, v2⟩ := ob
  simp only [EntD.cells] at *
  go_enter Try.func82, Try.ntmps82
  go_wp2_with fail
  refine (bytesCompare_any r1 r2).mono ?_
  rintro e1 w1 ⟨rfl, rfl⟩
  go_wp2
  go_ret
  exact ⟨rfl, A2⟩

set_option maxRecDepth 100000 in
set_option maxHeartbeats 1000000 in
theorem ord2_d {a b : EntD} {w : World} (ha : EntD.Ok w a) (hb : EntD.Ok w b) :
    Calls Try.prog 84 #[.agg a.cells, .agg b.cells] w fun r w' => r = .returned (.int .i64 (cmpI a.fam b.fam)) ∧ BelowD w.heap.size w w' := by
  have A1 := (BelowD.refl w.heap.size w).alloc (Nat.le_refl _) (.cells a.cells 38)
  have A2 := A1.alloc A1.size (.cells b.cells 38)
  have oa := ha.later A2.b
  have ob := hb.later A2.b
  clear A1 ha hb
  obtain ⟨vr, fam, vq, ts, seq, ka, vv, row, qual, val⟩ := a
  obtain ⟨vr2, fam2, vq2, ts2, seq2, kb, vv2, row2, qual2, val2⟩ := b
  obtain ⟨r1, q1, v1⟩ := oa
  obtain ⟨r2, q2, v2⟩ := ob
  simp only [EntD.cells] at *
  go_enter Try.func84, Try.ntmps84
  go_wp2_with fail
  refine (cmpInt_any _ _ _).mono ?_
  rintro e1 w1 ⟨rfl, rfl⟩
  go_wp2
  go_ret
  exact ⟨rfl, A2⟩

set_option maxRecDepth 100000 in
set_option maxHeartbeats 1000000 in
theorem ord3_d {a b : EntD} {w : World} (ha : EntD.Ok w a) (hb : EntD.Ok w b) :
    Calls Try.prog 86 #[.agg a.cells, .agg b.cells] w fun r w' => r = .returned (.int .i64 (aheadS a b 5)) ∧ BelowD w.heap.size w w' := by
  have A1 := (BelowD.refl w.heap.size w).alloc (Nat.le_refl _) (.cells a.cells 38)
  have A2 := A1.alloc A1.size (.cells b.cells 38)
  have oa := ha.later A2.b
  have ob := hb.later A2.b
  clear A1 ha hb
  have c1 := aheadIf_d (a := a) (b := b) 5 (w := (w.alloc (.cells a.cells 38)).alloc (.cells b.cells 38))
  obtain ⟨S, hS⟩ : ∃ S, S = aheadS a b 5 := ⟨_, rfl⟩
  rw [← hS] at c1 ⊢
  have HC : Hid (Calls Try.prog 87 #[.agg a.cells, .agg b.cells, .int .i64 5] ((w.alloc (.cells a.cells 38)).alloc (.cells b.cells 38)) fun r w' => r = .returned (.int .i64 S) ∧ BelowD ((w.alloc (.cells a.cells 38)).alloc (.cells b.cells 38)).heap.size ((w.alloc (.cells a.cells 38)).alloc (.cells b.cells 38)) w') := c1
  clear c1 hS
  obtain ⟨vr, fam, vq, ts, seq, ka, vv, row, qual, val⟩ := a
  obtain ⟨vr2, fam2, vq2, ts2, seq2, kb, vv2, row2, qual2, val2⟩ := b
  obtain ⟨r1, q1, v1⟩ := oa
  obtain ⟨r2, q2, v2⟩ := ob
  simp only [EntD.cells] at *
  go_enter Try.func86, Try.ntmps86
  go_wp2_with fail
  refine HC.out.mono ?_
  rintro e1 w1 ⟨rfl, hb1⟩
  have B1 := A2.trans (hb1.mono A2.size)
  go_wp2
  go_ret
  exact ⟨rfl, B1⟩

set_option maxRecDepth 100000 in
set_option maxHeartbeats 1000000 in
theorem ord4_d {a b : EntD} {w : World} (ha : EntD.Ok w a) (hb : EntD.Ok w b) :
    Calls Try.prog 88 #[.agg a.cells, .agg b.cells] w fun r w' => r = .returned (.int .i64 (ordC a.qual b.qual)) ∧ BelowD w.heap.size w w' := by
  have A1 := (BelowD.refl w.heap.size w).alloc (Nat.le_refl _) (.cells a.cells 38)
  have A2 := A1.alloc A1.size (.cells b.cells 38)
  have oa := ha.later A2.b
  have ob := hb.later A2.b
  clear A1 ha hb
  obtain ⟨vr, fam, vq, ts, seq, ka, vv, row, qual, val⟩ := a
  obtain ⟨vr2, fam2, vq2, ts2, seq2, kb, vv2, row2, qual2, val2⟩ := b
  obtain ⟨r1, q1, v1⟩ := oa
  obtain ⟨r2, q2, v2⟩ := ob
  simp only [EntD.cells] at *
  go_enter Try.func88, Try.ntmps88
  go_wp2_with fail
  refine (bytesCompare_any q1 q2).mono ?_
  rintro e1 w1 ⟨rfl, rfl⟩
  go_wp2
  go_ret
  exact ⟨rfl, A2⟩

set_option maxRecDepth 100000 in
set_option maxHeartbeats 1000000 in
theorem ord5_d {a b : EntD} {w : World} (ha : EntD.Ok w a) (hb : EntD.Ok w b) :
    Calls Try.prog 89 #[.agg a.cells, .agg b.cells] w fun r w' => r = .returned (.int .i64 (aheadS a b 4)) ∧ BelowD w.heap.size w w' := by
  have A1 := (BelowD.refl w.heap.size w).alloc (Nat.le_refl _) (.cells a.cells 38)
  have A2 := A1.alloc A1.size (.cells b.cells 38)
  have oa := ha.later A2.b
  have ob := hb.later A2.b
  clear A1 ha hb
  have c1 := aheadIf_d (a := a) (b := b) 4 (w := (w.alloc (.cells a.cells 38)).alloc (.cells b.cells 38))
  obtain ⟨S, hS⟩ : ∃ S, S = aheadS a b 4 := ⟨_, rfl⟩
  rw [← hS] at c1 ⊢
  have HC : Hid (Calls Try.prog 87 #[.agg a.cells, .agg b.cells, .int .i64 4] ((w.alloc (.cells a.cells 38)).alloc (.cells b.cells 38)) fun r w' => r = .returned (.int .i64 S) ∧ BelowD ((w.alloc (.cells a.cells 38)).alloc (.cells b.cells 38)).heap.size ((w.alloc (.cells a.cells 38)).alloc (.cells b.cells 38)) w') := c1
  clear c1 hS
  obtain ⟨vr, fam, vq, ts, seq, ka, vv, row, qual, val⟩ := a
  obtain ⟨vr2, fam2, vq2, ts2, seq2, kb, vv2, row2, qual2, val2⟩ := b
  obtain ⟨r1, q1, v1⟩ := oa
  obtain ⟨r2, q2, v2⟩ := ob
  simp only [EntD.cells] at *
  go_enter Try.func89, Try.ntmps89
  go_wp2_with fail
  refine HC.out.mono ?_
  rintro e1 w1 ⟨rfl, hb1⟩
  have B1 := A2.trans (hb1.mono A2.size)
  go_wp2
  go_ret
  exact ⟨rfl, B1⟩

set_option maxRecDepth 100000 in
set_option maxHeartbeats 1000000 in
theorem ord6_d {a b : EntD} {w : World} (ha : EntD.Ok w a) (hb : EntD.Ok w b) :
    Calls Try.prog 90 #[.agg a.cells, .agg b.cells] w fun r w' => r = .returned (.int .i64 (cmpI b.ts a.ts)) ∧ BelowD w.heap.size w w' := by
  have A1 := (BelowD.refl w.heap.size w).alloc (Nat.le_refl _) (.cells a.cells 38)
  have A2 := A1.alloc A1.size (.cells b.cells 38)
  have oa := ha.later A2.b
  have ob := hb.later A2.b
  clear A1 ha hb
  obtain ⟨vr, fam, vq, ts, seq, ka, vv, row, qual, val⟩ := a
  obtain ⟨vr2, fam2, vq2, ts2, seq2, kb, vv2, row2, qual2, val2⟩ := b
  obtain ⟨r1, q1, v1⟩ := oa
  obtain ⟨r2, q2, v2⟩ := ob
  simp only [EntD.cells] at *
  go_enter Try.func90, Try.ntmps90
  go_wp2_with fail
  refine (cmpInt_any _ _ _).mono ?_
  rintro e1 w1 ⟨rfl, rfl⟩
  go_wp2
  go_ret
  exact ⟨rfl, A2⟩

set_option maxRecDepth 100000 in
set_option maxHeartbeats 1000000 in
theorem ord7_d {a b : EntD} {w : World} (ha : EntD.Ok w a) (hb : EntD.Ok w b) :
    Calls Try.prog 91 #[.agg a.cells, .agg b.cells] w fun r w' => r = .returned (.int .i64 (cmpI b.seq a.seq)) ∧ BelowD w.heap.size w w' := by
  have A1 := (BelowD.refl w.heap.size w).alloc (Nat.le_refl _) (.cells a.cells 38)
  have A2 := A1.alloc A1.size (.cells b.cells 38)
  have oa := ha.later A2.b
  have ob := hb.later A2.b
  clear A1 ha hb
  obtain ⟨vr, fam, vq, ts, seq, ka, vv, row, qual, val⟩ := a
  obtain ⟨vr2, fam2, vq2, ts2, seq2, kb, vv2, row2, qual2, val2⟩ := b
  obtain ⟨r1, q1, v1⟩ := oa
  obtain ⟨r2, q2, v2⟩ := ob
  simp only [EntD.cells] at *
  go_enter Try.func91, Try.ntmps91
  go_wp2_with fail
  refine (cmpInt_any _ _ _).mono ?_
  rintro e1 w1 ⟨rfl, rfl⟩
  go_wp2
  go_ret
  exact ⟨rfl, A2⟩

set_option maxRecDepth 100000 in
set_option maxHeartbeats 1000000 in
theorem ord8_d {a b : EntD} {w : World} (ha : EntD.Ok w a) (hb : EntD.Ok w b) :
    Calls Try.prog 92 #[.agg a.cells, .agg b.cells] w fun r w' => r = .returned (.int .i64 (cmpI a.kind b.kind)) ∧ BelowD w.heap.size w w' := by
  have A1 := (BelowD.refl w.heap.size w).alloc (Nat.le_refl _) (.cells a.cells 38)
  have A2 := A1.alloc A1.size (.cells b.cells 38)
  have oa := ha.later A2.b
  have ob := hb.later A2.b
  clear A1 ha hb
  obtain ⟨vr, fam, vq, ts, seq, ka, vv, row, qual, val⟩ := a
  obtain ⟨vr2, fam2, vq2, ts2, seq2, kb, vv2, row2, qual2, val2⟩ := b
  obtain ⟨r1, q1, v1⟩ := oa
  obtain ⟨r2, q2, v2⟩ := ob
  simp only [EntD.cells] at *
  go_enter Try.func92, Try.ntmps92
  go_wp2_with fail
  refine (cmpInt_any _ _ _).mono ?_
  rintro e1 w1 ⟨rfl, rfl⟩
  go_wp2
  go_ret
  exact ⟨rfl, A2⟩

end Go.Proofs.Ytemdhpjoakldhaa

