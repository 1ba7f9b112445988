import Derived.Test.YtemdhpjoakldhaaJ03
import Derived.Test.YtemdhpjoakldhaaJ04
import Derived.Deep.RegionHeld3
namespace Go.Proofs.Ytemdhpjoakldhaa
open Go.RowKit
set_option linter.unusedVariables false

theorem one_trip (x : Nat) (pre rest : List Nat) : oneR (pre ++ ([x] ++ rest)) pre.length = (x, pre.length + 1, false) := by
  rw [oneR_in _ _ (by simp)]
  simp [List.getD]
theorem ord_at {bs pre rest l : List Nat} {k : Nat} (h : bs = pre ++ (ordL l ++ rest)) (hk : k = pre.length) : ordR bs k = (l, k + (ordL l).length, 0) := by
  subst h hk; exact ord_trip _ _ _
theorem fall_at' {bs pre rest : List Nat} {k n : Nat} (hn : n < 9223372036854775808) (h : bs = pre ++ (be8 (9223372036854775807 - n) ++ rest)) (hk : k = pre.length) : fallR bs k = (n, k + 8, 0) := by
  subst h hk; exact fall_trip n hn _ _
theorem one_at' {bs pre rest : List Nat} {k x : Nat} (h : bs = pre ++ ([x] ++ rest)) (hk : k = pre.length) : oneR bs k = (x, k + 1, false) := by
  subst h hk; exact one_trip _ _ _

/-- What a key reads as, not of a family's tombstone. -/
theorem reads_plain {D : EntD} (hc : checkS D = 0) (hk : D.kind ≠ 5) : ∃ p1 p2 p3 p4 p5 p6 p7, ordR (keyL D) 0 = (D.row, p1, 0) ∧ oneR (keyL D) p1 = (D.fam.toNat, p2, false) ∧ oneR (keyL D) p2 = (1, p3, false) ∧ ordR (keyL D) p3 = (D.qual, p4, 0) ∧ oneR (keyL D) p4 = (mark D.kind 4, p5, false) ∧ fallR (keyL D) p5 = (D.ts.toNat, p6, 0) ∧ fallR (keyL D) p6 = (D.seq.toNat, p7, 0) ∧ oneR (keyL D) p7 = (D.kind.toNat, (keyL D).length, false) := by
  obtain ⟨_, f, _, _, t, s, k, _⟩ := check_facts hc
  have e := keyL_parts D
  rw [if_neg hk] at e
  have m5 : mark D.kind 5 = 1 := by simp [mark, hk]
  rw [m5] at e
  generalize keyL D = bs at e
  have q1 := ord_at (bs := bs) (l := D.row) (k := 0) (pre := []) (rest := ([D.fam.toNat] ++ ([1] ++ (ordL D.qual ++ ([mark D.kind 4] ++ (be8 (9223372036854775807 - D.ts.toNat) ++ (be8 (9223372036854775807 - D.seq.toNat) ++ ([D.kind.toNat] ++ [])))))))) (by rw [e]; simp) (by first | (simp; done) | (simp; omega) | (simp [be8]; done) | (simp [be8]; omega))
  have q2 := one_at' (bs := bs) (x := D.fam.toNat) (k := 0 + (ordL D.row).length) (pre := ordL D.row) (rest := ([1] ++ (ordL D.qual ++ ([mark D.kind 4] ++ (be8 (9223372036854775807 - D.ts.toNat) ++ (be8 (9223372036854775807 - D.seq.toNat) ++ ([D.kind.toNat] ++ []))))))) (by rw [e]; simp) (by first | (simp; done) | (simp; omega) | (simp [be8]; done) | (simp [be8]; omega))
  have q3 := one_at' (bs := bs) (x := 1) (k := 0 + (ordL D.row).length + 1) (pre := ordL D.row ++ [D.fam.toNat]) (rest := (ordL D.qual ++ ([mark D.kind 4] ++ (be8 (9223372036854775807 - D.ts.toNat) ++ (be8 (9223372036854775807 - D.seq.toNat) ++ ([D.kind.toNat] ++ [])))))) (by rw [e]; simp) (by first | (simp; done) | (simp; omega) | (simp [be8]; done) | (simp [be8]; omega))
  have q4 := ord_at (bs := bs) (l := D.qual) (k := 0 + (ordL D.row).length + 1 + 1) (pre := ordL D.row ++ [D.fam.toNat] ++ [1]) (rest := ([mark D.kind 4] ++ (be8 (9223372036854775807 - D.ts.toNat) ++ (be8 (9223372036854775807 - D.seq.toNat) ++ ([D.kind.toNat] ++ []))))) (by rw [e]; simp) (by first | (simp; done) | (simp; omega) | (simp [be8]; done) | (simp [be8]; omega))
  have q5 := one_at' (bs := bs) (x := mark D.kind 4) (k := 0 + (ordL D.row).length + 1 + 1 + (ordL D.qual).length) (pre := ordL D.row ++ [D.fam.toNat] ++ [1] ++ ordL D.qual) (rest := (be8 (9223372036854775807 - D.ts.toNat) ++ (be8 (9223372036854775807 - D.seq.toNat) ++ ([D.kind.toNat] ++ [])))) (by rw [e]; simp) (by first | (simp; done) | (simp; omega) | (simp [be8]; done) | (simp [be8]; omega))
  have q6 := fall_at' (bs := bs) (n := D.ts.toNat) (k := 0 + (ordL D.row).length + 1 + 1 + (ordL D.qual).length + 1) (pre := ordL D.row ++ [D.fam.toNat] ++ [1] ++ ordL D.qual ++ [mark D.kind 4]) (rest := (be8 (9223372036854775807 - D.seq.toNat) ++ ([D.kind.toNat] ++ []))) (by omega) (by rw [e]; simp) (by first | (simp; done) | (simp; omega) | (simp [be8]; done) | (simp [be8]; omega))
  have q7 := fall_at' (bs := bs) (n := D.seq.toNat) (k := 0 + (ordL D.row).length + 1 + 1 + (ordL D.qual).length + 1 + 8) (pre := ordL D.row ++ [D.fam.toNat] ++ [1] ++ ordL D.qual ++ [mark D.kind 4] ++ be8 (9223372036854775807 - D.ts.toNat)) (rest := ([D.kind.toNat] ++ [])) (by omega) (by rw [e]; simp) (by first | (simp; done) | (simp; omega) | (simp [be8]; done) | (simp [be8]; omega))
  have q8 := one_at' (bs := bs) (x := D.kind.toNat) (k := 0 + (ordL D.row).length + 1 + 1 + (ordL D.qual).length + 1 + 8 + 8) (pre := ordL D.row ++ [D.fam.toNat] ++ [1] ++ ordL D.qual ++ [mark D.kind 4] ++ be8 (9223372036854775807 - D.ts.toNat) ++ be8 (9223372036854775807 - D.seq.toNat)) (rest := []) (by rw [e]; simp) (by first | (simp; done) | (simp; omega) | (simp [be8]; done) | (simp [be8]; omega))
  have l8 : 0 + (ordL D.row).length + 1 + 1 + (ordL D.qual).length + 1 + 8 + 8 + 1 = bs.length := by rw [e]; first | (simp [be8]; done) | (simp [be8]; omega)
  rw [l8] at q8
  exact ⟨_, _, _, _, _, _, _, q1, q2, q3, q4, q5, q6, q7, q8⟩
/-- Of a family's tombstone. -/
theorem reads_fam {D : EntD} (hc : checkS D = 0) (hk : D.kind = 5) : ∃ p1 p2 p3 p6 p7, ordR (keyL D) 0 = (D.row, p1, 0) ∧ oneR (keyL D) p1 = (D.fam.toNat, p2, false) ∧ oneR (keyL D) p2 = (0, p3, false) ∧ fallR (keyL D) p3 = (D.ts.toNat, p6, 0) ∧ fallR (keyL D) p6 = (D.seq.toNat, p7, 0) ∧ oneR (keyL D) p7 = (D.kind.toNat, (keyL D).length, false) := by
  obtain ⟨_, f, _, _, t, s, k, _⟩ := check_facts hc
  have e := keyL_parts D
  rw [if_pos hk] at e
  have m5 : mark D.kind 5 = 0 := by simp [mark, hk]
  rw [m5] at e
  generalize keyL D = bs at e
  have q1 := ord_at (bs := bs) (l := D.row) (k := 0) (pre := []) (rest := ([D.fam.toNat] ++ ([0] ++ (be8 (9223372036854775807 - D.ts.toNat) ++ (be8 (9223372036854775807 - D.seq.toNat) ++ ([D.kind.toNat] ++ [])))))) (by rw [e]; simp) (by first | (simp; done) | (simp; omega) | (simp [be8]; done) | (simp [be8]; omega))
  have q2 := one_at' (bs := bs) (x := D.fam.toNat) (k := 0 + (ordL D.row).length) (pre := ordL D.row) (rest := ([0] ++ (be8 (9223372036854775807 - D.ts.toNat) ++ (be8 (9223372036854775807 - D.seq.toNat) ++ ([D.kind.toNat] ++ []))))) (by rw [e]; simp) (by first | (simp; done) | (simp; omega) | (simp [be8]; done) | (simp [be8]; omega))
  have q3 := one_at' (bs := bs) (x := 0) (k := 0 + (ordL D.row).length + 1) (pre := ordL D.row ++ [D.fam.toNat]) (rest := (be8 (9223372036854775807 - D.ts.toNat) ++ (be8 (9223372036854775807 - D.seq.toNat) ++ ([D.kind.toNat] ++ [])))) (by rw [e]; simp) (by first | (simp; done) | (simp; omega) | (simp [be8]; done) | (simp [be8]; omega))
  have q6 := fall_at' (bs := bs) (n := D.ts.toNat) (k := 0 + (ordL D.row).length + 1 + 1) (pre := ordL D.row ++ [D.fam.toNat] ++ [0]) (rest := (be8 (9223372036854775807 - D.seq.toNat) ++ ([D.kind.toNat] ++ []))) (by omega) (by rw [e]; simp) (by first | (simp; done) | (simp; omega) | (simp [be8]; done) | (simp [be8]; omega))
  have q7 := fall_at' (bs := bs) (n := D.seq.toNat) (k := 0 + (ordL D.row).length + 1 + 1 + 8) (pre := ordL D.row ++ [D.fam.toNat] ++ [0] ++ be8 (9223372036854775807 - D.ts.toNat)) (rest := ([D.kind.toNat] ++ [])) (by omega) (by rw [e]; simp) (by first | (simp; done) | (simp; omega) | (simp [be8]; done) | (simp [be8]; omega))
  have q8 := one_at' (bs := bs) (x := D.kind.toNat) (k := 0 + (ordL D.row).length + 1 + 1 + 8 + 8) (pre := ordL D.row ++ [D.fam.toNat] ++ [0] ++ be8 (9223372036854775807 - D.ts.toNat) ++ be8 (9223372036854775807 - D.seq.toNat)) (rest := []) (by rw [e]; simp) (by first | (simp; done) | (simp; omega) | (simp [be8]; done) | (simp [be8]; omega))
  have l8 : 0 + (ordL D.row).length + 1 + 1 + 8 + 8 + 1 = bs.length := by rw [e]; first | (simp [be8]; done) | (simp [be8]; omega)
  rw [l8] at q8
  exact ⟨_, _, _, _, _, q1, q2, q3, q6, q7, q8⟩

theorem seg_join {bs : List Nat} {i j k : Nat} (h1 : i ≤ j) (h2 : j ≤ k) (h3 : k ≤ bs.length) : (bs.take j).drop i ++ (bs.take k).drop j = (bs.take k).drop i := by
  apply List.ext_getElem?
  intro n
  by_cases hn : n < j - i
  · rw [List.getElem?_append_left (by simp; omega)]
    rw [List.getElem?_drop, List.getElem?_drop, List.getElem?_take_of_lt (by omega), List.getElem?_take_of_lt (by omega)]
  · rw [List.getElem?_append_right (by simp; omega), List.getElem?_drop, List.getElem?_drop]
    congr 1
    simp
    omega
theorem one_back {bs : List Nat} {k x P : Nat} (hk : k ≤ bs.length) (h : oneR bs k = (x, P, false)) : [x] = (bs.take P).drop k ∧ k ≤ P ∧ P ≤ bs.length := by
  unfold oneR at h
  split at h
  · simp at h
  · simp only [Prod.mk.injEq] at h
    obtain ⟨rfl, rfl, _⟩ := h
    have hlt : k < bs.length := by omega
    refine ⟨?_, by omega, by omega⟩
    rw [List.drop_take, show k + 1 - k = 1 by omega, drop_cons bs k hlt]
    rfl
theorem fall_back {bs : List Nat} {k V P : Nat} (hb : Bys bs) (h : fallR bs k = (V, P, 0)) : be8 (9223372036854775807 - V) = (bs.take P).drop k ∧ k ≤ P ∧ P ≤ bs.length := by
  unfold fallR at h
  split at h
  · rename_i h1
    simp only [Prod.mk.injEq] at h
    exact absurd h.2.2 h1
  · rename_i h1
    simp only [Prod.mk.injEq] at h
    obtain ⟨h2, h3, _⟩ := h
    have e : riseR bs k = ((riseR bs k).1, P, 0) := by
      rw [← h3]
      ext
      · rfl
      · rfl
      · simpa using h1
    obtain ⟨r1, r2, r3, r4⟩ := rise_back hb e
    refine ⟨?_, by omega, r3⟩
    rw [← r1]
    congr 1
    omega

/-- What was read, written again. -/
theorem back_plain {bs row qual : List Nat} {p1 p2 p3 p4 p5 p6 p7 p8 fam fm cm ts sq kd : Nat} (hb : Bys bs)
    (q1 : ordR bs 0 = (row, p1, 0)) (q2 : oneR bs p1 = (fam, p2, false)) (q3 : oneR bs p2 = (fm, p3, false)) (hfm : fm ≠ 0) (q4 : ordR bs p3 = (qual, p4, 0)) (q5 : oneR bs p4 = (cm, p5, false))
    (q6 : fallR bs p5 = (ts, p6, 0)) (q7 : fallR bs p6 = (sq, p7, 0)) (q8 : oneR bs p7 = (kd, p8, false)) (m5 : fm = mark kd 5) (m4 : cm = mark kd 4) (hp : p8 = bs.length) (vr vq vv : Value) (val : List Nat) :
    keyL ⟨vr, (fam : Int), vq, (ts : Int), (sq : Int), (kd : Int), vv, row, qual, val⟩ = bs := by
  obtain ⟨r1, s1, t1⟩ := ord_back (Nat.zero_le _) q1
  obtain ⟨r2, s2, t2⟩ := one_back t1 q2
  obtain ⟨r3, s3, t3⟩ := one_back t2 q3
  obtain ⟨r4, s4, t4⟩ := ord_back t3 q4
  obtain ⟨r5, s5, t5⟩ := one_back t4 q5
  obtain ⟨r6, s6, t6⟩ := fall_back hb q6
  obtain ⟨r7, s7, t7⟩ := fall_back hb q7
  obtain ⟨r8, s8, t8⟩ := one_back t7 q8
  have hk : ¬ ((kd : Int) = 5) := by
    intro h
    apply hfm
    rw [m5]
    simp [mark, h]
  rw [keyL_parts]
  simp only [Int.toNat_natCast]
  rw [if_neg hk, ← m5, ← m4, r1, r2, r3, r4, r5, r6, r7, r8, List.append_nil, List.append_assoc]
  rw [seg_join s7 s8 t8, seg_join s6 (by omega) t8, seg_join s5 (by omega) t8, seg_join (by omega) (by omega) t8, seg_join s3 (by omega) t8, seg_join s2 (by omega) t8, seg_join (by omega) (by omega) t8]
  rw [hp]
  simp
theorem back_fam {bs row : List Nat} {p1 p2 p3 p6 p7 p8 fam ts sq kd : Nat} (hb : Bys bs)
    (q1 : ordR bs 0 = (row, p1, 0)) (q2 : oneR bs p1 = (fam, p2, false)) (q3 : oneR bs p2 = (0, p3, false))
    (q6 : fallR bs p3 = (ts, p6, 0)) (q7 : fallR bs p6 = (sq, p7, 0)) (q8 : oneR bs p7 = (kd, p8, false)) (m5 : 0 = mark kd 5) (hp : p8 = bs.length) (vr vq vv : Value) (val : List Nat) :
    keyL ⟨vr, (fam : Int), vq, (ts : Int), (sq : Int), (kd : Int), vv, row, [], val⟩ = bs := by
  obtain ⟨r1, s1, t1⟩ := ord_back (Nat.zero_le _) q1
  obtain ⟨r2, s2, t2⟩ := one_back t1 q2
  obtain ⟨r3, s3, t3⟩ := one_back t2 q3
  obtain ⟨r6, s6, t6⟩ := fall_back hb q6
  obtain ⟨r7, s7, t7⟩ := fall_back hb q7
  obtain ⟨r8, s8, t8⟩ := one_back t7 q8
  have hk : (kd : Int) = 5 := by
    by_cases h : (kd : Int) = 5
    · exact h
    · simp [mark, h] at m5
  rw [keyL_parts]
  simp only [Int.toNat_natCast]
  rw [if_pos hk, ← m5, r1, r2, r3, r6, r7, r8, List.append_nil, List.nil_append]
  rw [seg_join s7 s8 t8, seg_join s6 (by omega) t8, seg_join s3 (by omega) t8, seg_join s2 (by omega) t8, seg_join (by omega) (by omega) t8]
  rw [hp]
  simp

end Go.Proofs.Ytemdhpjoakldhaa

namespace Go.Proofs.Ytemdhpjoakldhaa
open Go.RowKit
set_option linter.unusedVariables false

theorem rord_ok : ∀ (m : Nat) (l acc : List Nat) (i : Nat), l.length ≤ m → Bys l → Bys acc → Bys (rord l acc i).1 ∧ (rord l acc i).1.length ≤ acc.length + l.length := by
  intro m
  induction m with
  | zero =>
    intro l acc i hl hb ha
    obtain rfl : l = [] := List.eq_nil_of_length_eq_zero (by omega)
    rw [rord_nil]
    exact ⟨fun x hx => by simp at hx, by simp⟩
  | succ m ih =>
    intro l acc i hl hb ha
    cases l with
    | nil => rw [rord_nil]; exact ⟨fun x hx => by simp at hx, by simp⟩
    | cons c r =>
      by_cases hc : c = 0
      · subst hc
        cases r with
        | nil => exact ⟨fun x hx => by simp [rord] at hx, by simp [rord]⟩
        | cons d r =>
          rw [rord_zero]
          split
          · exact ⟨ha, by simp⟩
          · split
            · obtain ⟨h1, h2⟩ := ih r (acc ++ [0]) (i + 2) (by simp at hl; omega) (fun x hx => hb x (by simp [hx])) (ha.app (fun x hx => by simp at hx; omega))
              exact ⟨h1, by simp at h2 ⊢; omega⟩
            · exact ⟨fun x hx => by simp at hx, by simp⟩
      · rw [rord_step _ _ _ _ hc]
        obtain ⟨h1, h2⟩ := ih r (acc ++ [c]) (i + 1) (by simp at hl; omega) (fun x hx => hb x (by simp [hx])) (ha.app (fun x hx => by simp at hx; subst hx; exact hb _ (by simp)))
        exact ⟨h1, by simp at h2 ⊢; omega⟩
theorem ordR_ok (bs : List Nat) (k : Nat) (hb : Bys bs) : Bys (ordR bs k).1 ∧ (ordR bs k).1.length ≤ bs.length := by
  obtain ⟨h1, h2⟩ := rord_ok _ (bs.drop k) [] 0 (Nat.le_refl _) (fun x hx => hb x (List.mem_of_mem_drop hx)) (fun x hx => by simp at hx)
  exact ⟨h1, by have : (ordR bs k).1 = (rord (bs.drop k) [] 0).1 := rfl; rw [this]; simp at h2; omega⟩

end Go.Proofs.Ytemdhpjoakldhaa

namespace Go.Proofs.Ytemdhpjoakldhaa
open Go.RowKit
set_option linter.unusedVariables false

/-- Some entry has this key. -/
def IsKey (bs : List Nat) : Prop := ∃ D : EntD, checkS D = 0 ∧ D.val = [] ∧ keyL D = bs
theorem checkS_eq {D : EntD} (hc : checkS D = 0) (hv : D.val = []) (a b c : Value) : checkS ⟨a, ((D.fam.toNat : Nat) : Int), b, ((D.ts.toNat : Nat) : Int), ((D.seq.toNat : Nat) : Int), ((D.kind.toNat : Nat) : Int), c, D.row, D.qual, []⟩ = 0 := by
  obtain ⟨_, f, _, _, t, s, k, _⟩ := check_facts hc
  have e : checkS ⟨a, ((D.fam.toNat : Nat) : Int), b, ((D.ts.toNat : Nat) : Int), ((D.seq.toNat : Nat) : Int), ((D.kind.toNat : Nat) : Int), c, D.row, D.qual, []⟩ = checkS D := by
    unfold checkS
    simp only [Int.toNat_of_nonneg f.1, Int.toNat_of_nonneg (show 0 ≤ D.ts by omega), Int.toNat_of_nonneg s.1, Int.toNat_of_nonneg (show 0 ≤ D.kind by omega), hv]
  rw [e, hc]

theorem mark_toNat {k : Int} (h : 0 ≤ k) (a : Int) : mark ((k.toNat : Nat) : Int) a = mark k a := by rw [Int.toNat_of_nonneg h]
/-- What ParseKey answers of any bytes. -/
def ParsedAs (w w' : World) (r : Ending) (bs : List Nat) : Prop :=
  Below w.heap.size w w' ∧
  ((∃ D : EntD, checkS D = 0 ∧ D.val = [] ∧ keyL D = bs ∧ Bys D.row ∧ Bys D.qual ∧ D.vv = .slice none 0 0 ∧ r = .returned (.tuple #[.agg D.cells, .int .i64 0]) ∧ Own w' w.heap.size D.vr D.row.length D.row ∧ ∃ B, w.heap.size ≤ B ∧ Own w' B D.vq D.qual.length D.qual ∧ ∀ k, D.vr.ownBlock = some k → k < B) ∨
   (¬ IsKey bs ∧ r = .returned (.tuple #[.agg #[.slice none 0 0, .int .i64 0, .slice none 0 0, .int .i64 0, .int .i64 0, .int .i64 0, .slice none 0 0], .int .i64 27])))

end Go.Proofs.Ytemdhpjoakldhaa

namespace Go.Proofs.Ytemdhpjoakldhaa
open Go.RowKit
set_option linter.unusedVariables false

/-- append(own, x...), at an operation. -/
theorem appendR {w : World} {o : Oper} {a : Act} {K : Act → World → Prop} {Q : Exit → Act → World → Prop} (s x : Operand)
    (ho : o.op = .call { callee := .builtin .append, args := #[s, x], argTypes := #[36, 36] })
    (B : Nat) (a0 : Option Addr) (m0 c0 : Nat) (acc : List Nat) (hs : a.eval s = .slice a0 m0 c0) (hown : Own w B (.slice a0 m0 c0) m0 acc)
    (ad : Addr) (m c : Nat) (bs : List Nat) (hx : a.eval x = .slice (some ad) m c) (hrd : Rd w (.slice (some ad) m c) bs)
    (hbytes : m0 + m ≤ 140737488355328) (hB : B ≤ w.heap.size)
    (h : ∀ a' m' c' w', Own w' B (.slice a' m' c') m' (acc ++ bs) → Below B w w' → K (a.put o.dst (.slice a' m' c')) w') : o.wp Try.prog a w K Q := by
  obtain ⟨i0, hi, hz0, hz1, hz2⟩ := info_parts info_byte
  obtain ⟨hby, a1, c1, h2, hle, hm, hl48, hnone, hat⟩ := hrd
  simp only [Value.slice.injEq] at h2
  obtain ⟨rfl, rfl, rfl⟩ := h2
  refine wp_append_own _ s x 36 ho B 5 i0 (.int .u8 0) 1 1 und_bytes hi hz0 hz1 hz2 rfl (by decide) _ m0 (bv acc) hs hown.2 ad bs.length c (bv bs) hx (by simp [bv]) hat.add (bv_oneCell bs) (by unfold maxLen; omega) (by omega) hB ?_
  intro v' w' h1 h2 _
  obtain ⟨a', c', rfl⟩ := own_form h1
  refine h a' _ c' w' ⟨by rw [hown.1]; simp, by simpa [bv] using h1⟩ ((Below.refl B w).grown h2 hB (fun k hk => (hown.2.lt k hk).1))
theorem bytesL_pos (l : List Nat) : 1 ≤ (bytesL l).length := by
  have := uintL_len l.length
  simp [bytesL]; omega
theorem bytesL_bys {l : List Nat} (h : Bys l) (hl : l.length < 18446744073709551616) : Bys (bytesL l) := Bys.app (uintL_bys _ hl) h
theorem bytesL_le (l : List Nat) : (bytesL l).length ≤ l.length + 10 := by
  have := uintL_len l.length
  simp [bytesL]; omega
theorem own_some {w : World} {B m c : Nat} {a : Option Addr} {xs : List Nat} (h : Own w B (.slice a m c) m xs) (hp : 1 ≤ xs.length) : ∃ ad, a = some ad := by
  rcases h.2.2 with ⟨h1, h2⟩ | ⟨g, cap, cur, h1, _⟩
  · have := h.1; omega
  · simp only [Value.slice.injEq] at h1
    exact ⟨_, h1.1⟩

/-- What Pack writes. -/
def packL (e : EntD) : List Nat := bytesL (keyL e) ++ bytesL e.val

/-- The data are the same. -/
def EntD.Same (a b : EntD) : Prop := a.fam = b.fam ∧ a.ts = b.ts ∧ a.seq = b.seq ∧ a.kind = b.kind ∧ a.row = b.row ∧ a.qual = b.qual ∧ a.val = b.val
theorem EntD.Same.symm {a b : EntD} (h : EntD.Same a b) : EntD.Same b a := ⟨h.1.symm, h.2.1.symm, h.2.2.1.symm, h.2.2.2.1.symm, h.2.2.2.2.1.symm, h.2.2.2.2.2.1.symm, h.2.2.2.2.2.2.symm⟩

end Go.Proofs.Ytemdhpjoakldhaa

namespace Go.Proofs.Ytemdhpjoakldhaa
open Go.RowKit
set_option linter.unusedVariables false

/-- Three comparisons that fit. -/
def Tri (a b c : Int) : Prop := (a ≤ 0 ∧ b ≤ 0 → c ≤ 0) ∧ (0 ≤ a ∧ 0 ≤ b → 0 ≤ c) ∧ (a ≤ 0 ∧ b ≤ 0 ∧ c = 0 → a = 0 ∧ b = 0) ∧ (0 ≤ a ∧ 0 ≤ b ∧ c = 0 → a = 0 ∧ b = 0) ∧ (a = 0 → c = b) ∧ (b = 0 → c = a)
theorem tri_cmpI (x y z : Int) : Tri (cmpI x y) (cmpI y z) (cmpI x z) := by
  unfold Tri cmpI
  repeat' split
  all_goals omega
theorem tri_lex {a b c a' b' c' : Int} (h : Tri a b c) (k : Tri a' b' c') : Tri (if a = 0 then a' else a) (if b = 0 then b' else b) (if c = 0 then c' else c) := by
  unfold Tri at *
  obtain ⟨h1, h2, h3, h4, h5, h6⟩ := h
  by_cases ha : a = 0
  · by_cases hb : b = 0
    · have hc : c = 0 := by rw [h5 ha]; exact hb
      rw [if_pos ha, if_pos hb, if_pos hc]; exact k
    · have hc : c = b := h5 ha
      have hc0 : ¬ c = 0 := by omega
      rw [if_pos ha, if_neg hb, if_neg hc0]
      refine ⟨?_, ?_, ?_, ?_, ?_, ?_⟩ <;> omega
  · by_cases hb : b = 0
    · have hc : c = a := h6 hb
      have hc0 : ¬ c = 0 := by omega
      rw [if_neg ha, if_pos hb, if_neg hc0]
      refine ⟨?_, ?_, ?_, ?_, ?_, ?_⟩ <;> omega
    · rw [if_neg ha, if_neg hb]
      by_cases hc : c = 0
      · rw [if_pos hc]
        have e1 : ¬ (a ≤ 0 ∧ b ≤ 0) := fun e => ha (h3 ⟨e.1, e.2, hc⟩).1
        have e2 : ¬ (0 ≤ a ∧ 0 ≤ b) := fun e => ha (h4 ⟨e.1, e.2, hc⟩).1
        refine ⟨?_, ?_, ?_, ?_, ?_, ?_⟩ <;> omega
      · rw [if_neg hc]; exact ⟨h1, h2, h3, h4, h5, h6⟩
theorem tri_zero : Tri 0 0 0 := by unfold Tri; omega
theorem ordC_cons (x y : Nat) (a b : List Nat) : ordC (x :: a) (y :: b) = if cmpI (x : Int) (y : Int) = 0 then ordC a b else cmpI (x : Int) (y : Int) := by
  have e : ordC (x :: a) (y :: b) = if x < y then -1 else if y < x then 1 else ordC a b := rfl
  rw [e]
  unfold cmpI
  by_cases h1 : x < y
  · simp [h1]
  · by_cases h2 : y < x
    · have : ¬ (x : Int) < y := by omega
      simp [h1, h2]
    · simp [h1, h2]
theorem tri_ordC : ∀ (x y z : List Nat), Tri (ordC x y) (ordC y z) (ordC x z)
  | [], [], [] => by simp only [ordC]; exact tri_zero
  | [], [], _ :: _ => by simp only [ordC]; unfold Tri; omega
  | [], _ :: _, [] => by simp only [ordC]; unfold Tri; omega
  | [], y :: b, z :: c => by
    have h : ordC [] (y :: b) = -1 := rfl
    have h2 : ordC [] (z :: c) = -1 := rfl
    rw [h, h2]; unfold Tri; omega
  | _ :: _, [], [] => by simp only [ordC]; unfold Tri; omega
  | x :: a, [], z :: c => by
    have h : ordC (x :: a) [] = 1 := rfl
    have h2 : ordC [] (z :: c) = -1 := rfl
    rw [h, h2]; unfold Tri; omega
  | x :: a, y :: b, [] => by
    have h : ordC (y :: b) [] = 1 := rfl
    have h2 : ordC (x :: a) [] = 1 := rfl
    rw [h, h2]; unfold Tri; omega
  | x :: a, y :: b, z :: c => by
    rw [ordC_cons, ordC_cons, ordC_cons]
    exact tri_lex (tri_cmpI _ _ _) (tri_ordC a b c)
theorem cmpI_swap (a b : Int) : cmpI b a = -cmpI a b := by
  unfold cmpI
  repeat' split
  all_goals omega
theorem lex_neg {a a' b b' : Int} (h : b = -a) (k : b' = -a') : (if b = 0 then b' else b) = -(if a = 0 then a' else a) := by
  subst h k
  by_cases ha : a = 0
  · rw [if_pos ha, if_pos (by omega)]
  · rw [if_neg ha, if_neg (by omega)]
theorem compareS_tri (x y z : EntD) : Tri (compareS x y) (compareS y z) (compareS x z) := by
  unfold compareS cmpsS
  simp only [firstNZ]
  have rev : ∀ a b c : Int, Tri (cmpI b a) (cmpI c b) (cmpI c a) := fun a b c => by
    rw [cmpI_swap a b, cmpI_swap b c, cmpI_swap a c]
    have h := tri_cmpI a b c
    unfold Tri at *
    omega
  refine tri_lex (tri_ordC _ _ _) (tri_lex (tri_cmpI _ _ _) (tri_lex ?_ (tri_lex (tri_ordC _ _ _) (tri_lex ?_ (tri_lex (rev _ _ _) (tri_lex (rev _ _ _) (tri_lex (tri_cmpI _ _ _) tri_zero)))))))
  · exact tri_cmpI _ _ _
  · exact tri_cmpI _ _ _
theorem compareS_swap (x y : EntD) : compareS y x = -compareS x y := by
  unfold compareS cmpsS
  simp only [firstNZ]
  exact lex_neg (ordC_swap _ _) (lex_neg (cmpI_swap _ _) (lex_neg (cmpI_swap _ _) (lex_neg (ordC_swap _ _) (lex_neg (cmpI_swap _ _) (lex_neg (cmpI_swap _ _) (lex_neg (cmpI_swap _ _) (lex_neg (cmpI_swap _ _) (by omega))))))))
theorem compareS_self (x : EntD) : compareS x x = 0 := by
  have := compareS_swap x x
  omega
theorem lex_small {a b : Int} (h : -1 ≤ a ∧ a ≤ 1) (k : -1 ≤ b ∧ b ≤ 1) : -1 ≤ (if a = 0 then b else a) ∧ (if a = 0 then b else a) ≤ 1 := by split <;> assumption
theorem cmpI_small (a b : Int) : -1 ≤ cmpI a b ∧ cmpI a b ≤ 1 := by
  unfold cmpI
  by_cases h : a < b
  · rw [if_pos h]; omega
  · rw [if_neg h]
    by_cases h2 : b < a
    · rw [if_pos h2]; omega
    · rw [if_neg h2]; omega
theorem ordC_small : ∀ (a b : List Nat), -1 ≤ ordC a b ∧ ordC a b ≤ 1
  | [], [] => by simp [ordC]
  | [], _ :: _ => by simp [ordC]
  | _ :: _, [] => by simp [ordC]
  | x :: a, y :: b => by rw [ordC_cons]; exact lex_small (cmpI_small _ _) (ordC_small a b)
theorem compareS_small (x y : EntD) : -1 ≤ compareS x y ∧ compareS x y ≤ 1 := by
  unfold compareS cmpsS
  simp only [firstNZ]
  exact lex_small (ordC_small _ _) (lex_small (cmpI_small _ _) (lex_small (cmpI_small _ _) (lex_small (ordC_small _ _) (lex_small (cmpI_small _ _) (lex_small (cmpI_small _ _) (lex_small (cmpI_small _ _) (lex_small (cmpI_small _ _) (by omega))))))))
theorem compareS_same {a b c d : EntD} (h : EntD.Same a c) (k : EntD.Same b d) : compareS a b = compareS c d := by
  obtain ⟨h1, h2, h3, h4, h5, h6, h7⟩ := h
  obtain ⟨k1, k2, k3, k4, k5, k6, k7⟩ := k
  unfold compareS cmpsS aheadS
  rw [h1, h2, h3, h4, h5, h6, k1, k2, k3, k4, k5, k6]
end Go.Proofs.Ytemdhpjoakldhaa

namespace Go.Proofs.Ytemdhpjoakldhaa
open Go.RowKit
set_option linter.unusedVariables false

/-- An entry's data. -/
structure En where
  row : List Nat
  fam : Int
  qual : List Nat
  ts : Int
  seq : Int
  kind : Int
  val : List Nat
def EntD.dat (e : EntD) : En := ⟨e.row, e.fam, e.qual, e.ts, e.seq, e.kind, e.val⟩
theorem EntD.dat_same {a b : EntD} : a.dat = b.dat ↔ EntD.Same a b := by
  unfold EntD.dat EntD.Same
  simp only [En.mk.injEq]
  exact ⟨fun ⟨h1, h2, h3, h4, h5, h6, h7⟩ => ⟨h2, h4, h5, h6, h1, h3, h7⟩, fun ⟨h2, h4, h5, h6, h1, h3, h7⟩ => ⟨h1, h2, h3, h4, h5, h6, h7⟩⟩
/-- What a walk says of an entry. -/
structure Vd where
  e : En
  fate : Int
  rank : Int
/-- Where a walk stands. -/
structure Sp where
  begun : Bool
  last : En
  family : Int
  mask : Int
  rank : Int
  waiting : Bool
  seq : Int
def enZ : En := ⟨[], 0, [], 0, 0, 0, []⟩
def Sp.zero : Sp := ⟨false, enZ, 0, 0, 0, false, 0⟩
/-- A family's Max and TTL. -/
def famAt (fs : List (Int × Int)) (i : Int) : Int × Int := fs.getD i.toNat (0, 0)
def decideS (fs : List (Int × Int)) (clock : Int) (s : Sp) (e : En) : Vd × Sp :=
  if e.ts ≤ s.mask then (⟨e, 2, 0⟩, s)
  else if 0 < (famAt fs e.fam).2 ∧ e.ts + (famAt fs e.fam).2 ≤ clock then (⟨e, 3, 0⟩, s)
  else if e.kind = 3 then (⟨e, 6, 0⟩, s)
  else (⟨e, if (famAt fs e.fam).1 < s.rank + 1 then 4 else 5, s.rank + 1⟩, { s with rank := s.rank + 1 })
def resolveS (fs : List (Int × Int)) (clock : Int) (s : Sp) (kind : Int) : List Vd × Sp :=
  if s.waiting then ([(decideS fs clock { s with waiting := false } { s.last with seq := s.seq, kind := kind }).1], (decideS fs clock { s with waiting := false } { s.last with seq := s.seq, kind := kind }).2) else ([], s)
def stretchS (s : Sp) (e : En) : Vd × Sp :=
  if e.ts ≤ s.mask then (⟨e, 8, 0⟩, s) else (⟨e, 7, 0⟩, { s with mask := e.ts, family := if e.kind = 5 then e.ts else s.family })
def sameFam (s : Sp) (e : En) : Bool := s.begun && decide (s.last.fam = e.fam) && decide (s.last.row = e.row)
def sameCol (s : Sp) (e : En) : Bool := sameFam s e && decide (s.last.kind ≠ 5) && decide (s.last.qual = e.qual)
def sameGrp (s : Sp) (e : En) : Bool := sameCol s e && decide (s.last.kind ≠ 4) && decide (s.last.ts = e.ts)
def leftS (s1 : Sp) (f c : Bool) : Sp :=
  let s2 := if f then s1 else { s1 with family := 0 }
  if c then s2 else { s2 with mask := s2.family, rank := 0 }
def enterS (fs : List (Int × Int)) (clock : Int) (s : Sp) (e : En) : List Vd × Sp :=
  if sameGrp s e then ([], s) else ((resolveS fs clock s 3).1, leftS (resolveS fs clock s 3).2 (sameFam s e) (sameCol s e))
def rememberS (s : Sp) (e : En) : Sp := { s with begun := true, last := e }
def stepS (fs : List (Int × Int)) (clock : Int) (s : Sp) (e : En) : List Vd × Sp :=
  if e.kind = 5 ∨ e.kind = 4 then ((enterS fs clock s e).1 ++ [(stretchS (enterS fs clock s e).2 e).1], rememberS (stretchS (enterS fs clock s e).2 e).2 e)
  else if sameGrp s e then
    if e.kind ≠ 3 then ((enterS fs clock s e).1 ++ ((resolveS fs clock (enterS fs clock s e).2 2).1 ++ [⟨e, 1, 0⟩]), rememberS (resolveS fs clock (enterS fs clock s e).2 2).2 e)
    else ((enterS fs clock s e).1 ++ [⟨e, 1, 0⟩], rememberS (enterS fs clock s e).2 e)
  else if e.kind = 3 then ((enterS fs clock s e).1, rememberS { (enterS fs clock s e).2 with waiting := true, seq := e.seq } e)
  else ((enterS fs clock s e).1 ++ [(decideS fs clock (enterS fs clock s e).2 e).1], rememberS (decideS fs clock (enterS fs clock s e).2 e).2 e)
/-- Over entries in order. -/
def walkS (fs : List (Int × Int)) (clock : Int) : Sp → List En → List Vd × Sp
  | s, [] => ([], s)
  | s, e :: l => ((stepS fs clock s e).1 ++ (walkS fs clock (stepS fs clock s e).2 l).1, (walkS fs clock (stepS fs clock s e).2 l).2)
/-- What a walk over all of them says. -/
def verdictsS (fs : List (Int × Int)) (clock : Int) (l : List En) : List Vd := (walkS fs clock Sp.zero l).1 ++ (resolveS fs clock (walkS fs clock Sp.zero l).2 3).1
/-- An entry that may come to a walk over n families. -/
structure Fit (n : Nat) (e : En) : Prop where
  row : e.row.length ≤ 256
  qual : e.qual.length ≤ 256
  val : e.val.length ≤ 4096
  ts0 : 1 ≤ e.ts
  ts : e.ts ≤ 1099511627776
  fam0 : 0 ≤ e.fam
  fam : e.fam < n
end Go.Proofs.Ytemdhpjoakldhaa

namespace Go.Proofs.Ytemdhpjoakldhaa
open Go.RowKit
set_option linter.unusedVariables false

/-! ### Trees of entries -/
inductive BT where
  | leaf
  | node (l : BT) (e : EntD) (r : BT)
def BT.ht : BT → Nat
  | .leaf => 0
  | .node l _ r => 1 + max l.ht r.ht
def BT.ord : BT → List EntD
  | .leaf => []
  | .node l e r => l.ord ++ e :: r.ord
def BT.size (t : BT) : Nat := t.ord.length
theorem BT.ht_le : ∀ t : BT, t.ht ≤ t.size
  | .leaf => Nat.le_refl _
  | .node l e r => by
    have h1 := l.ht_le
    have h2 := r.ht_le
    simp only [BT.ht, BT.size, BT.ord, List.length_append, List.length_cons] at *
    omega
/-- What balance makes of two sides and an entry. -/
def balS (l : BT) (e : EntD) (r : BT) : BT :=
  if r.ht + 1 < l.ht then
    match l with
    | .leaf => .node l e r
    | .node ll le lr =>
      if ll.ht < lr.ht then
        match lr with
        | .leaf => .node ll le (.node lr e r)
        | .node ml me mr => .node (.node ll le ml) me (.node mr e r)
      else .node ll le (.node lr e r)
  else if l.ht + 1 < r.ht then
    match r with
    | .leaf => .node l e r
    | .node rl re rr =>
      if rr.ht < rl.ht then
        match rl with
        | .leaf => .node (.node l e rl) re rr
        | .node ml me mr => .node (.node l e ml) me (.node mr re rr)
      else .node (.node l e rl) re rr
  else .node l e r
theorem balS_ord (l : BT) (e : EntD) (r : BT) : (balS l e r).ord = l.ord ++ e :: r.ord := by
  unfold balS
  split
  · split
    · rfl
    · split
      · split <;> simp [BT.ord]
      · simp [BT.ord]
  · split
    · split
      · rfl
      · split
        · split <;> simp [BT.ord]
        · simp [BT.ord]
    · rfl
/-- What hang makes of a tree and an entry. -/
def hangS (x : EntD) : BT → BT
  | .leaf => .node .leaf x .leaf
  | .node l e r => if compareS x e < 0 then balS (hangS x l) e r else balS l e (hangS x r)
theorem hangS_length (x : EntD) : ∀ t : BT, (hangS x t).ord.length = t.ord.length + 1
  | .leaf => rfl
  | .node l e r => by
    unfold hangS
    split
    · rw [balS_ord, List.length_append, hangS_length x l, List.length_cons, BT.ord, List.length_append, List.length_cons]; omega
    · rw [balS_ord, List.length_append, List.length_cons, hangS_length x r, BT.ord, List.length_append, List.length_cons]; omega

/-- In order, each key once. -/
def Srt (l : List EntD) : Prop := l.Pairwise fun a b => compareS a b < 0
theorem cmp_lt_trans {a b c : EntD} (h : compareS a b < 0) (k : compareS b c < 0) : compareS a c < 0 := by
  have := compareS_tri a b c
  unfold Tri at this
  omega
theorem cmp_le_lt {a b c : EntD} (h : 0 ≤ compareS a b) (k : compareS c b < 0) : 0 < compareS a c := by
  have h1 := compareS_tri c b a
  have h2 := compareS_swap a b
  have h3 := compareS_swap a c
  unfold Tri at h1
  omega
/-- Where it is hung: behind all that are not behind it. -/
theorem hangS_ord (x : EntD) : ∀ t : BT, Srt t.ord → ∃ A B, t.ord = A ++ B ∧ (hangS x t).ord = A ++ x :: B ∧ (∀ a ∈ A, 0 ≤ compareS x a) ∧ ∀ b ∈ B, compareS x b < 0
  | .leaf, _ => ⟨[], [], rfl, rfl, by simp, by simp⟩
  | .node l e r, hs => by
    simp only [BT.ord, Srt, List.pairwise_append, List.pairwise_cons, List.mem_cons] at hs
    obtain ⟨hl, ⟨her, hr⟩, hlr⟩ := hs
    unfold hangS
    split
    · rename_i hlt
      obtain ⟨A, B, h1, h2, h3, h4⟩ := hangS_ord x l hl
      refine ⟨A, B ++ e :: r.ord, by simp [BT.ord, h1], by rw [balS_ord, h2]; simp, h3, fun b hb => ?_⟩
      simp only [List.mem_append, List.mem_cons] at hb
      rcases hb with hb | rfl | hb
      · exact h4 b hb
      · exact hlt
      · exact cmp_lt_trans hlt (her b hb)
    · rename_i hge
      obtain ⟨A, B, h1, h2, h3, h4⟩ := hangS_ord x r hr
      refine ⟨l.ord ++ e :: A, B, by simp [BT.ord, h1], by rw [balS_ord, h2]; simp, fun a ha => ?_, h4⟩
      simp only [List.mem_append, List.mem_cons] at ha
      rcases ha with ha | rfl | ha
      · have := cmp_le_lt (Int.not_lt.1 hge) (hlr a ha e (.inl rfl)); omega
      · omega
      · exact h3 a ha
/-- If none is the same it stays in order. -/
theorem srt_ins {x : EntD} {A B : List EntD} (hs : Srt (A ++ B)) (hA : ∀ a ∈ A, 0 < compareS x a) (hB : ∀ b ∈ B, compareS x b < 0) : Srt (A ++ x :: B) := by
  simp only [Srt, List.pairwise_append, List.pairwise_cons, List.mem_cons] at *
  obtain ⟨h1, h2, h3⟩ := hs
  refine ⟨h1, ⟨hB, h2⟩, fun a ha b hb => ?_⟩
  rcases hb with rfl | hb
  · have := compareS_swap a b; have := hA a ha; omega
  · exact h3 a ha b hb

/-! ### Where they lie -/
/-- What lies in blocks of G is kept. -/
structure KpG (G : Nat → Prop) (w w' : World) : Prop where
  size : w.heap.size ≤ w'.heap.size
  block : ∀ i, i < w.heap.size → G i → w'.heap[i]? = w.heap[i]?
theorem KpG.refl (G : Nat → Prop) (w : World) : KpG G w w := ⟨Nat.le_refl _, fun _ _ _ => rfl⟩
theorem KpG.trans {G : Nat → Prop} {a b c : World} (h : KpG G a b) (k : KpG G b c) : KpG G a c := ⟨Nat.le_trans h.size k.size, fun i hi hg => (k.block i (Nat.lt_of_lt_of_le hi h.size) hg).trans (h.block i hi hg)⟩
theorem KpG.of {G : Nat → Prop} {w w' : World} (h : Below w.heap.size w w') : KpG G w w' := ⟨h.size, fun i hi _ => h.block i hi⟩
theorem KpG.mono {G G' : Nat → Prop} {w w' : World} (h : KpG G w w') (hg : ∀ i, G' i → G i) : KpG G' w w' := ⟨h.size, fun i hi k => h.block i hi (hg i k)⟩
theorem KpG.of_apart {G : Nat → Prop} {t : Nat} {w w' : World} (h : Apart t w w') (ht : ¬ G t) : KpG G w w' := ⟨h.size, fun i hi hg => h.block i hi (fun e => ht (e ▸ hg))⟩
/-- It reads as bytes, in blocks of G. -/
def RdG (G : Nat → Prop) (w : World) (v : Value) (bs : List Nat) : Prop := Rd w v bs ∧ ∀ b off m c, v = .slice (some ⟨b, off, none⟩) m c → 0 < m → G b ∧ ∃ cur fr, w.heap[b]? = some (.cells cur 5 fr)
theorem RdG.kept {G : Nat → Prop} {w w' : World} {v : Value} {bs : List Nat} (h : RdG G w v bs) (hk : KpG G w w') : RdG G w' v bs := by
  obtain ⟨⟨h1, a, cap, rfl, h3, h4, h5, h6, h7⟩, hg⟩ := h
  refine ⟨⟨h1, a, cap, rfl, h3, h4, h5, h6, ?_⟩, fun b off m c e hm => ?_⟩
  · rcases h7 with h7 | ⟨b, off, rfl, hc⟩
    · exact .inl h7
    · by_cases h0 : bs = []
      · exact .inl h0
      · refine .inr ⟨b, off, rfl, fun i hi => ?_⟩
        rw [World.cell?_of_block (w := w) (a := ⟨b, off + i, none⟩) (hk.block b (World.block_lt_of_cell? w _ (hc i hi)) (hg b off _ _ rfl (by omega)).1)]
        exact hc i hi
  · obtain ⟨h8, cur, fr, h9⟩ := hg b off m c e hm
    exact ⟨h8, cur, fr, (hk.block b (Array.getElem?_eq_some_iff.1 h9).1 h8).trans h9⟩
theorem RdG.mono {G G' : Nat → Prop} {w : World} {v : Value} {bs : List Nat} (h : RdG G w v bs) (hg : ∀ i, G i → G' i) : RdG G' w v bs := ⟨h.1, fun b off m c e hm => ⟨hg b (h.2 b off m c e hm).1, (h.2 b off m c e hm).2⟩⟩
theorem RdG.of_own {G : Nat → Prop} {w : World} {B : Nat} {v : Value} {m : Nat} {bs : List Nat} (h : Own w B v m bs) (hb : Bys bs) (hl : m ≤ 281474976710656) (hG : ∀ i, B ≤ i → G i) : RdG G w v bs := by
  refine ⟨h.rd hb hl, fun b off k c e hk => ?_⟩
  rcases h.2.2 with ⟨rfl, rfl⟩ | ⟨g, cap, cur, rfl, hB, hcur, _⟩
  · cases e
  · cases e; exact ⟨hG _ hB, cur, _, hcur⟩
/-- Blocks of bytes are kept. -/
def KU (w w' : World) : Prop := ∀ (i : Nat) (cur : Array Value) (fr : Nat × Nat), w.heap[i]? = some (.cells cur 5 fr) → w'.heap[i]? = some (.cells cur 5 fr)
theorem KU.trans {a b c : World} (h : KU a b) (k : KU b c) : KU a c := fun i cur fr hi => k i cur fr (h i cur fr hi)
theorem KU.of {w w' : World} (h : Below w.heap.size w w') : KU w w' := fun i cur fr hi => (h.block i (Array.getElem?_eq_some_iff.1 hi).1).trans hi
theorem KU.set {w : World} {b : Nat} {cs : Array Value} {t : TypeId} {fr : Nat × Nat} (hb : w.heap[b]? = some (.cells cs t fr)) (ht : t ≠ 5) (i : Nat) (v : Value) : KU w (w.setCell ⟨b, i, none⟩ v) := fun j cur fr' hj =>
  (Below.heap_setCell w ⟨b, i, none⟩ v j (fun e => by subst e; rw [hb] at hj; cases hj; exact ht rfl)).trans hj
theorem KU.grown {w w' : World} {row : Option Nat} (hg : w.grownBy w' row) (hr : ∀ r, row = some r → ∃ cs t fr, w.heap[r]? = some (.cells cs t fr) ∧ t ≠ 5) : KU w w' := fun j cur fr hj =>
  (hg.block j (Array.getElem?_eq_some_iff.1 hj).1 (fun e => by
    obtain ⟨cs, t, fr', h1, h2⟩ := hr j e.symm
    rw [h1] at hj; cases hj; exact h2 rfl)).trans hj
theorem RdG.ku {G : Nat → Prop} {w w' : World} {v : Value} {bs : List Nat} (h : RdG G w v bs) (hk : KU w w') : RdG G w' v bs := by
  obtain ⟨⟨h1, a, cap, rfl, h3, h4, h5, h6, h7⟩, hg⟩ := h
  refine ⟨⟨h1, a, cap, rfl, h3, h4, h5, h6, ?_⟩, fun b off m c e hm => ?_⟩
  · rcases h7 with h7 | ⟨b, off, rfl, hc⟩
    · exact .inl h7
    · by_cases h0 : bs = []
      · exact .inl h0
      · refine .inr ⟨b, off, rfl, fun i hi => ?_⟩
        obtain ⟨_, cur, fr, h9⟩ := hg b off _ _ rfl (by omega)
        rw [World.cell?_of_block (w := w) (a := ⟨b, off + i, none⟩) ((hk b cur fr h9).trans h9.symm)]
        exact hc i hi
  · obtain ⟨h8, cur, fr, h9⟩ := hg b off m c e hm
    exact ⟨h8, cur, fr, hk b cur fr h9⟩
def EOk (G : Nat → Prop) (w : World) (e : EntD) : Prop := RdG G w e.vr e.row ∧ RdG G w e.vq e.qual ∧ RdG G w e.vv e.val
theorem EOk.ok {G : Nat → Prop} {w : World} {e : EntD} (h : EOk G w e) : EntD.Ok w e := ⟨h.1.1, h.2.1.1, h.2.2.1⟩
theorem EOk.kept {G : Nat → Prop} {w w' : World} {e : EntD} (h : EOk G w e) (hk : KpG G w w') : EOk G w' e := ⟨h.1.kept hk, h.2.1.kept hk, h.2.2.kept hk⟩
theorem EOk.ku {G : Nat → Prop} {w w' : World} {e : EntD} (h : EOk G w e) (hk : KU w w') : EOk G w' e := ⟨h.1.ku hk, h.2.1.ku hk, h.2.2.ku hk⟩
theorem EOk.mono {G G' : Nat → Prop} {w : World} {e : EntD} (h : EOk G w e) (hg : ∀ i, G i → G' i) : EOk G' w e := ⟨h.1.mono hg, h.2.1.mono hg, h.2.2.mono hg⟩

/-- A node's cells. -/
def nodeC (e : EntD) (l r : Option Addr) (h : Nat) : Array Value := #[e.vr, .int .i64 e.fam, e.vq, .int .i64 e.ts, .int .i64 e.seq, .int .i64 e.kind, e.vv, .pointer l, .pointer r, .int .i64 (h : Int)]
end Go.Proofs.Ytemdhpjoakldhaa
