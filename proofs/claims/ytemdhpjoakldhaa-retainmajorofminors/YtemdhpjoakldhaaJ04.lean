import Derived.Test.YtemdhpjoakldhaaJ03
import Derived.Lib.SmallJoins
import Derived.Lib.Hide
import Derived.Deep.QuietTactic
import Derived.BigQuiet
import Derived.Deep.RegionHeld3
import Derived.Test.YtemdhpjoakldhaaJ01
namespace Go.Proofs.Ytemdhpjoakldhaa
open Go.RowKit
set_option linter.unusedVariables false
theorem own_one' (w : World) (B x : Nat) (z : Int) (hz : z = (x : Int)) (hB : B ≤ w.heap.size) : Own (w.alloc (.cells #[.int .u8 z] 5)) B (.slice (some ⟨w.heap.size, 0, none⟩) 1 1) 1 [x] := by
  subst hz; exact own_one w B x hB
theorem be8_step (V t : Nat) (h : t < 8) : (be8 V).drop (8 - (t + 1)) = [V / 256 ^ t % 256] ++ (be8 V).drop (8 - t) := by
  have hl : (be8 V).length = 8 := rfl
  rw [drop_cons' (be8 V) (8 - (t + 1)) (by rw [hl]; omega), be8_get V _ (by omega), show 8 - (t + 1) + 1 = 8 - t by omega, show 7 - (8 - (t + 1)) = t by omega, Nat.pow_mul]
  rfl

theorem wrapN (v c : Nat) (h : v * 256 + c < 18446744073709551616) : IntKind.u64.wrap (IntKind.u64.wrap (256 * (v : Int)) + (c : Int)) = ((v * 256 + c : Nat) : Int) := by
  rw [IntKind.wrap_u64, IntKind.wrap_u64]; omega

theorem tup3i {X X' Y Y' Z : Int} (h1 : X = X') (h2 : Y = Y') : Ending.returned (Value.tuple #[Value.int .i64 X, Value.int .i64 Y, Value.int .i64 Z]) = Ending.returned (Value.tuple #[Value.int .i64 X', Value.int .i64 Y', Value.int .i64 Z]) := by rw [h1, h2]

end Go.Proofs.Ytemdhpjoakldhaa

namespace Go.Proofs.Ytemdhpjoakldhaa
open Go.RowKit
set_option linter.unusedVariables false

/-- The entry that may be, and its key. -/
def plainD (vr vq vv : Value) : EntD := ⟨vr, 1, vq, 5, 32, 1, vv, [114], [113], [118]⟩
def zeroD : EntD := ⟨.slice none 0 0, 0, .slice none 0 0, 0, 0, 0, .slice none 0 0, [], [], []⟩
theorem rd_one {w : World} {g x : Nat} (h : w.cell? ⟨g, 0, none⟩ = some (.int .u8 (x : Int))) (hx : x < 256) : Rd w (.slice (some ⟨g, 0, none⟩) 1 1) [x] :=
  ⟨fun y hy => by simp at hy; omega, _, 1, rfl, Nat.le_refl _, by decide, by simp, .inr ⟨g, 0, rfl⟩, .inr ⟨g, 0, rfl, fun i hi => by
    obtain rfl : i = 0 := by simp at hi; omega
    simpa using h⟩⟩
theorem Apart.cell {g : Nat} {w w' : World} (h : Apart g w w') {k i : Nat} {x : Value} (hx : w.cell? ⟨k, i, none⟩ = some x) (hk : k ≠ g) : w'.cell? ⟨k, i, none⟩ = some x := by
  have hl : k < w.heap.size := World.block_lt_of_cell? w _ hx
  have e := h.block k hl hk
  unfold World.cell? at hx ⊢
  rw [e]
  exact hx


/-- Three byte strings behind an entry. -/
theorem three (w : World) (E : EntD) : ∃ w4, w4 = (((w.alloc (.cells E.cells 38)).alloc (.cells #[.int .u8 114] 5 (1, 2))).alloc (.cells #[.int .u8 113] 5 (1, 2))).alloc (.cells #[.int .u8 118] 5 (1, 2)) ∧ EBox w4 w.heap.size E ∧
    w4.cell? ⟨w.heap.size + 1, 0, none⟩ = some (.int .u8 114) ∧ w4.cell? ⟨w.heap.size + 2, 0, none⟩ = some (.int .u8 113) ∧ w4.cell? ⟨w.heap.size + 3, 0, none⟩ = some (.int .u8 118) ∧ Below w.heap.size w w4 := by
  have A1 := (Below.refl w.heap.size w).alloc (Nat.le_refl _) (.cells E.cells 38)
  have b1 := EBox.new w E
  have s1 : (w.alloc (.cells E.cells 38)).heap.size = w.heap.size + 1 := by simp
  obtain ⟨w1, hw1⟩ : ∃ w1, w1 = w.alloc (.cells E.cells 38) := ⟨_, rfl⟩
  rw [← hw1] at A1 b1 s1
  have A2 := (Below.refl w1.heap.size w1).alloc (Nat.le_refl _) (.cells #[.int .u8 114] 5 (1, 2))
  have s2 : (w1.alloc (.cells #[.int .u8 114] 5 (1, 2))).heap.size = w.heap.size + 2 := by simp [s1]
  have c2 : (w1.alloc (.cells #[.int .u8 114] 5 (1, 2))).cell? ⟨w.heap.size + 1, 0, none⟩ = some (.int .u8 114) := by rw [Joins.cell_alloc_mark_at _ _ _ _ _ _ s1.symm]; rfl
  obtain ⟨w2, hw2⟩ : ∃ w2, w2 = w1.alloc (.cells #[.int .u8 114] 5 (1, 2)) := ⟨_, rfl⟩
  rw [← hw2] at A2 s2 c2
  have A3 := (Below.refl w2.heap.size w2).alloc (Nat.le_refl _) (.cells #[.int .u8 113] 5 (1, 2))
  have s3 : (w2.alloc (.cells #[.int .u8 113] 5 (1, 2))).heap.size = w.heap.size + 3 := by simp [s2]
  have c3 : (w2.alloc (.cells #[.int .u8 113] 5 (1, 2))).cell? ⟨w.heap.size + 2, 0, none⟩ = some (.int .u8 113) := by rw [Joins.cell_alloc_mark_at _ _ _ _ _ _ s2.symm]; rfl
  obtain ⟨w3, hw3⟩ : ∃ w3, w3 = w2.alloc (.cells #[.int .u8 113] 5 (1, 2)) := ⟨_, rfl⟩
  rw [← hw3] at A3 s3 c3
  have A4 := (Below.refl w3.heap.size w3).alloc (Nat.le_refl _) (.cells #[.int .u8 118] 5 (1, 2))
  have c4 : (w3.alloc (.cells #[.int .u8 118] 5 (1, 2))).cell? ⟨w.heap.size + 3, 0, none⟩ = some (.int .u8 118) := by rw [Joins.cell_alloc_mark_at _ _ _ _ _ _ s3.symm]; rfl
  obtain ⟨w4, hw4⟩ : ∃ w4, w4 = w3.alloc (.cells #[.int .u8 118] 5 (1, 2)) := ⟨_, rfl⟩
  rw [← hw4] at A4 c4
  refine ⟨w4, by rw [hw4, hw3, hw2, hw1], ((b1.later A2).later A3).later A4, ?_, ?_, c4, ((A1.trans (A2.mono A1.size)).trans (A3.mono (by omega))).trans (A4.mono (by omega))⟩
  · rw [A4.cell (p := ⟨w.heap.size + 1, 0, none⟩) (by simp; omega), A3.cell (p := ⟨w.heap.size + 1, 0, none⟩) (by simp; omega)]; exact c2
  · rw [A4.cell (p := ⟨w.heap.size + 2, 0, none⟩) (by simp; omega)]; exact c3

def plainK : List Nat := [114, 0, 1, 1, 1, 113, 0, 1, 1, 127, 255, 255, 255, 255, 255, 255, 250, 127, 255, 255, 255, 255, 255, 255, 223, 1]
theorem plainK_bys : Bys plainK := by
  have h : ∀ x ∈ plainK, x < 256 := by decide
  exact h
theorem be8_a : be8 (9223372036854775807 - 5) = [127, 255, 255, 255, 255, 255, 255, 250] := by decide +kernel
theorem be8_b : be8 (9223372036854775807 - 32) = [127, 255, 255, 255, 255, 255, 255, 223] := by decide +kernel
theorem keyL_plain (vr vq vv : Value) : keyL (plainD vr vq vv) = plainK := by
  have h1 : ordL [114] = [114, 0, 1] := by simp [ordL, escL]
  have h2 : ordL [113] = [113, 0, 1] := by simp [ordL, escL]
  show ((((ordL [114] ++ [1, mark 1 5]) ++ (if (1 : Int) = 5 then [] else ordL [113] ++ [mark 1 4])) ++ be8 (9223372036854775807 - 5)) ++ be8 (9223372036854775807 - 32)) ++ [1] = plainK
  rw [h1, h2, be8_a, be8_b]
  simp [mark, plainK]

end Go.Proofs.Ytemdhpjoakldhaa

namespace Go.Proofs.Ytemdhpjoakldhaa
open Go.RowKit
set_option linter.unusedVariables false
theorem wpList_append_gr {w : World} {ops : Array Oper} {rest : List Oper} {o : Oper} {a : Act} {Q : Exit → Act → World → Prop} (hgd : o.guard = none) (s x : Operand)
    (ho : o.op = .call { callee := .builtin .append, args := #[s, x], argTypes := #[36, 36] })
    (B : Nat) (a0 : Option Addr) (m0 c0 : Nat) (acc : List Nat) (hs : a.eval s = .slice a0 m0 c0) (hown : Own w B (.slice a0 m0 c0) m0 acc)
    (ao : Option Addr) (m c : Nat) (bs : List Nat) (hx : a.eval x = .slice ao m c) (hrd : Rd w (.slice ao m c) bs)
    (hbytes : m0 + m ≤ 140737488355328) (hB : B ≤ w.heap.size)
    (h : ∀ a' m' c' w', Own w' B (.slice a' m' c') m' (acc ++ bs) → Below B w w' → w.grownBy w' (Value.slice a0 m0 c0).ownBlock → wpList Try.prog ops Q rest (a.put o.dst (.slice a' m' c')) w') : wpList Try.prog ops Q (o :: rest) a w := by
  obtain ⟨i0, hi, hz0, hz1, hz2⟩ := info_parts info_byte
  obtain ⟨hby, a1, c1, h2, hle, hm, hl48, hnone, hat⟩ := hrd
  simp only [Value.slice.injEq] at h2
  obtain ⟨rfl, rfl, rfl⟩ := h2
  cases ao with
  | none =>
    have hb0 : bs = [] ∧ c = 0 := by
      rcases hnone with h | ⟨b, off, h⟩
      · exact ⟨List.eq_nil_of_length_eq_zero (by omega), h⟩
      · cases h
    obtain ⟨rfl, rfl⟩ := hb0
    refine wpList_append_own_none hgd s x 36 ho B 5 i0 1 und_bytes hi _ _ _ hs hown.2 (by simpa using hx) ?_
    exact h _ _ _ _ (by simpa using hown) (Below.refl _ _) (World.grownBy.refl _ _)
  | some ad =>
    refine wpList_append_own _ hgd s x 36 ho B 5 i0 (.int .u8 0) 1 1 und_bytes hi hz0 hz1 hz2 rfl (by decide) _ m0 (bv acc) hs hown.2 ad bs.length c (bv bs) hx (by simp [bv]) hat.add (bv_oneCell bs) (by unfold maxLen; omega) (by omega) hB ?_
    intro v' w' h1 h2 _
    obtain ⟨a', c', rfl⟩ := own_form h1
    refine h a' _ c' w' ⟨by rw [hown.1]; simp, by simpa [bv] using h1⟩ ((Below.refl B w).grown h2 hB (fun k hk => (hown.2.lt k hk).1)) h2


/-- What owns its bytes keeps them while another one grows. -/
theorem Own.grown {w w' : World} {B m : Nat} {v : Value} {o : Option Nat} {xs : List Nat} (h : Own w B v m xs) (k : w.grownBy w' o) (hne : ∀ g, o = some g → g < B) : Own w' B v m xs := by
  refine ⟨h.1, h.2.1, ?_⟩
  rcases h.2.2 with h2 | ⟨g, cap, cur, h3, h4, h5, h6⟩
  · exact .inl h2
  · refine .inr ⟨g, cap, cur, h3, h4, ?_, h6⟩
    rw [k.block g (Array.getElem?_eq_some_iff.1 h5).1 ?_]
    · exact h5
    · intro e
      have := hne g e.symm
      omega

end Go.Proofs.Ytemdhpjoakldhaa

namespace Go.Proofs.Ytemdhpjoakldhaa
open Go.RowKit
set_option linter.unusedVariables false

theorem ordR_a : ordR plainK 0 = ([114], 3, 0) := by simp [ordR, plainK, rord]
theorem ordR_b : ordR plainK 5 = ([113], 8, 0) := by simp [ordR, plainK, rord]
theorem fallR_a : fallR plainK 9 = (5, 17, 0) := by decide +kernel
theorem fallR_b : fallR plainK 17 = (32, 25, 0) := by decide +kernel
theorem oneR_3 : oneR plainK 3 = (1, 4, false) := rfl
theorem oneR_4 : oneR plainK 4 = (1, 5, false) := rfl
theorem oneR_8 : oneR plainK 8 = (1, 9, false) := rfl
theorem oneR_25 : oneR plainK 25 = (1, 26, false) := rfl
theorem check_plain : checkS ⟨.slice none 0 0, ((1 : Nat) : Int), .slice none 0 0, ((5 : Nat) : Int), ((32 : Nat) : Int), ((1 : Nat) : Int), .slice none 0 0, [114], [113], []⟩ = 0 := by simp [checkS]
theorem take_eq {xs ys : List Nat} {t : Nat} (h1 : t < xs.length) (h2 : t < ys.length) (h : xs.take t = ys.take t) (he : xs.getD t 0 = ys.getD t 0) : xs.take (t + 1) = ys.take (t + 1) := by
  rw [List.take_add_one, List.take_add_one, h, List.getElem?_eq_getElem h1, List.getElem?_eq_getElem h2]
  simp [List.getD, List.getElem?_eq_getElem h1, List.getElem?_eq_getElem h2] at he
  simp [he]

end Go.Proofs.Ytemdhpjoakldhaa

namespace Go.Proofs.Ytemdhpjoakldhaa
open Go.RowKit
set_option linter.unusedVariables false

theorem EBox.cells7 {w : World} {g : Nat} {e : EntD} (h : EBox w g e) : w.cell? ⟨g, 0, none⟩ = some e.vr ∧ w.cell? ⟨g, 1, none⟩ = some (.int .i64 e.fam) ∧ w.cell? ⟨g, 2, none⟩ = some e.vq ∧ w.cell? ⟨g, 3, none⟩ = some (.int .i64 e.ts) ∧ w.cell? ⟨g, 4, none⟩ = some (.int .i64 e.seq) ∧ w.cell? ⟨g, 5, none⟩ = some (.int .i64 e.kind) ∧ w.cell? ⟨g, 6, none⟩ = some e.vv := ⟨h.vr, h.fam, h.vq, h.ts, h.seq, h.kind, h.vv⟩
theorem check_plainD (vr vq vv : Value) : checkS (plainD vr vq vv) = 0 := by simp [checkS, plainD]
def badD (vr vq vv : Value) (seq : Int) : EntD := ⟨vr, 1, vq, 0, seq, 1, vv, [114], [113], [118]⟩
theorem check_badD (vr vq vv : Value) (seq : Int) : checkS (badD vr vq vv seq) = 23 := by simp [checkS, badD]

theorem cmp_plain (a b c x y z : Value) : compareS (plainD a b c) (badD x y z 32) = -1 := by simp [compareS, cmpsS, firstNZ, plainD, badD, ordC_self, cmpI, aheadS]
end Go.Proofs.Ytemdhpjoakldhaa

namespace Go.Proofs.Ytemdhpjoakldhaa
open Go.RowKit
set_option linter.unusedVariables false

/-- Two lists are told apart at one place, or are the same. -/
def Dif (xs ys : List Nat) (c : Int) : Prop :=
  (c = 0 ∧ xs = ys) ∨ (c = -1 ∧ ∃ p x y r s, xs = p ++ x :: r ∧ ys = p ++ y :: s ∧ x < y) ∨ (c = 1 ∧ ∃ p x y r s, xs = p ++ x :: r ∧ ys = p ++ y :: s ∧ y < x)
theorem Dif.more {xs ys : List Nat} {c : Int} (h : Dif xs ys c) (hc : c ≠ 0) (u v : List Nat) : Dif (xs ++ u) (ys ++ v) c := by
  rcases h with ⟨h, _⟩ | ⟨h, p, x, y, r, s, rfl, rfl, hx⟩ | ⟨h, p, x, y, r, s, rfl, rfl, hx⟩
  · exact absurd h hc
  · exact .inr (.inl ⟨h, p, x, y, r ++ u, s ++ v, by simp, by simp, hx⟩)
  · exact .inr (.inr ⟨h, p, x, y, r ++ u, s ++ v, by simp, by simp, hx⟩)
theorem Dif.ahead {u v : List Nat} {c : Int} (h : Dif u v c) (xs : List Nat) : Dif (xs ++ u) (xs ++ v) c := by
  rcases h with ⟨h, rfl⟩ | ⟨h, p, x, y, r, s, rfl, rfl, hx⟩ | ⟨h, p, x, y, r, s, rfl, rfl, hx⟩
  · exact .inl ⟨h, rfl⟩
  · exact .inr (.inl ⟨h, xs ++ p, x, y, r, s, by simp, by simp, hx⟩)
  · exact .inr (.inr ⟨h, xs ++ p, x, y, r, s, by simp, by simp, hx⟩)
theorem Dif.cons {xs ys u v : List Nat} {c : Int} {l : List Int} (h : Dif xs ys c) (k : c = 0 → Dif u v (firstNZ l)) : Dif (xs ++ u) (ys ++ v) (firstNZ (c :: l)) := by
  unfold firstNZ
  by_cases hc : c = 0
  · rw [if_pos hc]
    rcases h with ⟨_, rfl⟩ | ⟨h, _⟩ | ⟨h, _⟩
    · exact (k hc).ahead xs
    · omega
    · omega
  · rw [if_neg hc]
    exact h.more hc u v
theorem dif_ordC : ∀ (xs ys : List Nat), (¬ xs <+: ys ∧ ¬ ys <+: xs) ∨ xs = ys → Dif xs ys (ordC xs ys)
  | [], ys, h => by
    rcases h with h | rfl
    · exact absurd (List.nil_prefix) h.1
    · exact .inl ⟨ordC_self _, rfl⟩
  | x :: xs, [], h => by
    rcases h with h | h
    · exact absurd (List.nil_prefix) h.2
    · cases h
  | x :: xs, y :: ys, h => by
    unfold ordC
    by_cases h1 : x < y
    · rw [if_pos h1]
      exact .inr (.inl ⟨rfl, [], x, y, xs, ys, rfl, rfl, h1⟩)
    · rw [if_neg h1]
      by_cases h2 : y < x
      · rw [if_pos h2]
        exact .inr (.inr ⟨rfl, [], x, y, xs, ys, rfl, rfl, h2⟩)
      · rw [if_neg h2]
        obtain rfl : x = y := by omega
        have := dif_ordC xs ys (by
          rcases h with ⟨h3, h4⟩ | h
          · exact .inl ⟨fun k => h3 (List.cons_prefix_cons.2 ⟨rfl, k⟩), fun k => h4 (List.cons_prefix_cons.2 ⟨rfl, k⟩)⟩
          · exact .inr (by simpa using h))
        exact this.ahead [x]
theorem dif_len {xs ys : List Nat} (h : xs.length = ys.length) : Dif xs ys (ordC xs ys) := by
  refine dif_ordC xs ys ?_
  by_cases e : xs = ys
  · exact .inr e
  · exact .inl ⟨fun k => e (k.eq_of_length h), fun k => e (k.eq_of_length h.symm).symm⟩
theorem dif_ordL (a b : List Nat) : Dif (ordL a) (ordL b) (ordC a b) := by
  rw [← ordC_ordL0]
  refine dif_ordC _ _ ?_
  by_cases e : ordC a b = 0
  · exact .inr (by rw [ordC_eq a b e])
  · have e2 : ordC b a ≠ 0 := by rw [ordC_swap]; omega
    exact .inl ⟨fun k => ordL_free a b e ⟨k.length_le, (List.prefix_iff_eq_take.1 k)⟩, fun k => ordL_free b a e2 ⟨k.length_le, (List.prefix_iff_eq_take.1 k)⟩⟩
theorem dif_one (m n : Nat) : Dif [m] [n] (cmpI (m : Int) (n : Int)) := by
  have e : ordC [m] [n] = cmpI (m : Int) (n : Int) := by
    simp only [ordC, cmpI]
    repeat' split
    all_goals omega
  rw [← e]
  exact dif_len rfl
theorem dif_fall (m n : Nat) (hm : m < 9223372036854775808) (hn : n < 9223372036854775808) : Dif (be8 (9223372036854775807 - m)) (be8 (9223372036854775807 - n)) (cmpI (n : Int) (m : Int)) := by
  have e : ordC (be8 (9223372036854775807 - m)) (be8 (9223372036854775807 - n)) = cmpI (n : Int) (m : Int) := by
    rw [ordC_be8 _ _ (by omega) (by omega)]
    simp only [cmpN, cmpI]
    repeat' split
    all_goals omega
  rw [← e]
  exact dif_len rfl

theorem keyL_parts (e : EntD) : keyL e = ordL e.row ++ ([e.fam.toNat] ++ ([mark e.kind 5] ++ ((if e.kind = 5 then [] else ordL e.qual ++ [mark e.kind 4]) ++ (be8 (9223372036854775807 - e.ts.toNat) ++ (be8 (9223372036854775807 - e.seq.toNat) ++ ([e.kind.toNat] ++ [])))))) := by
  simp [keyL]

theorem key_dif {a b : EntD} (ha : checkS a = 0) (hb : checkS b = 0) : Dif (keyL a) (keyL b) (compareS a b) := by
  obtain ⟨_, fa, _, qa, ta, sa, ka, _⟩ := check_facts ha
  obtain ⟨_, fb, _, qb, tb, sb, kb, _⟩ := check_facts hb
  rw [keyL_parts, keyL_parts]
  unfold compareS cmpsS
  have tail : Dif (be8 (9223372036854775807 - a.ts.toNat) ++ (be8 (9223372036854775807 - a.seq.toNat) ++ ([a.kind.toNat] ++ []))) (be8 (9223372036854775807 - b.ts.toNat) ++ (be8 (9223372036854775807 - b.seq.toNat) ++ ([b.kind.toNat] ++ []))) (firstNZ [cmpI b.ts a.ts, cmpI b.seq a.seq, cmpI a.kind b.kind]) := by
    have d1 := dif_fall a.ts.toNat b.ts.toNat (by omega) (by omega)
    have d2 := dif_fall a.seq.toNat b.seq.toNat (by omega) (by omega)
    have d3 := dif_one a.kind.toNat b.kind.toNat
    rw [Int.toNat_of_nonneg (by omega), Int.toNat_of_nonneg (by omega)] at d1 d2 d3
    exact d1.cons fun _ => d2.cons fun _ => d3.cons fun _ => .inl ⟨rfl, rfl⟩
  have dm := dif_one a.fam.toNat b.fam.toNat
  rw [Int.toNat_of_nonneg (by omega), Int.toNat_of_nonneg (by omega)] at dm
  refine (dif_ordL a.row b.row).cons fun _ => dm.cons fun _ => (dif_one _ _).cons fun h5 => ?_
  by_cases k5 : a.kind = 5
  · by_cases l5 : b.kind = 5
    · rw [if_pos k5, if_pos l5, qa k5, qb l5]
      have e : aheadS a b 4 = 0 := by simp [aheadS, mark, k5, l5, cmpI]
      rw [e]
      simpa [firstNZ, ordC] using tail
    · exfalso
      simp [mark, k5, l5, cmpI] at h5
  · by_cases l5 : b.kind = 5
    · exfalso
      simp [mark, k5, l5, cmpI] at h5
    · rw [if_neg k5, if_neg l5, List.append_assoc, List.append_assoc]
      exact (dif_ordL a.qual b.qual).cons fun _ => (dif_one _ _).cons fun _ => tail

theorem dif_end {xs ys : List Nat} {c : Int} {t : Nat} (h : Dif xs ys c) (ht : xs.take t = ys.take t) (h1 : t ≤ xs.length) (h2 : t ≤ ys.length) (h3 : t = xs.length ∨ t = ys.length) : c = 0 ∧ xs.length = ys.length := by
  have key : ∀ (p r s : List Nat) (x y : Nat), xs = p ++ x :: r → ys = p ++ y :: s → x ≠ y → False := by
    intro p r s x y e1 e2 hne
    have hp : p.length < t := by
      rcases h3 with h | h
      · rw [h, e1]; simp
      · rw [h, e2]; simp
    have e3 : (xs.take t)[p.length]? = (ys.take t)[p.length]? := by rw [ht]
    rw [List.getElem?_take_of_lt hp, List.getElem?_take_of_lt hp, e1, e2] at e3
    simp at e3
    exact hne e3
  rcases h with ⟨h, rfl⟩ | ⟨h, p, x, y, r, s, e1, e2, hx⟩ | ⟨h, p, x, y, r, s, e1, e2, hx⟩
  · exact ⟨h, rfl⟩
  · exact (key p r s x y e1 e2 (by omega)).elim
  · exact (key p r s x y e1 e2 (by omega)).elim
theorem dif_at {xs ys : List Nat} {c : Int} {t : Nat} (h : Dif xs ys c) (ht : xs.take t = ys.take t) (h1 : t < xs.length) (h2 : t < ys.length) (hne : xs.getD t 0 ≠ ys.getD t 0) : (c = -1 ∧ xs.getD t 0 < ys.getD t 0) ∨ (c = 1 ∧ ys.getD t 0 < xs.getD t 0) := by
  have key : ∀ (p r s : List Nat) (x y : Nat), xs = p ++ x :: r → ys = p ++ y :: s → x ≠ y → xs.getD t 0 = x ∧ ys.getD t 0 = y := by
    intro p r s x y e1 e2 hxy
    have hp : p.length = t := by
      rcases Nat.lt_trichotomy p.length t with h | h | h
      · have e3 : (xs.take t)[p.length]? = (ys.take t)[p.length]? := by rw [ht]
        rw [List.getElem?_take_of_lt h, List.getElem?_take_of_lt h, e1, e2] at e3
        simp at e3
        exact absurd e3 hxy
      · exact h
      · exfalso
        apply hne
        rw [e1, e2]
        simp [List.getD, List.getElem?_append_left h]
    subst hp
    rw [e1, e2]
    simp [List.getD]
  rcases h with ⟨h, rfl⟩ | ⟨h, p, x, y, r, s, e1, e2, hx⟩ | ⟨h, p, x, y, r, s, e1, e2, hx⟩
  · exact absurd rfl hne
  · obtain ⟨g1, g2⟩ := key p r s x y e1 e2 (by omega)
    exact .inl ⟨h, by omega⟩
  · obtain ⟨g1, g2⟩ := key p r s x y e1 e2 (by omega)
    exact .inr ⟨h, by omega⟩

end Go.Proofs.Ytemdhpjoakldhaa

namespace Go.Proofs.Ytemdhpjoakldhaa
open Go.RowKit
set_option linter.unusedVariables false
theorem keyL_bys {e : EntD} (hr : Bys e.row) (hq : Bys e.qual) (hc : checkS e = 0) : Bys (keyL e) := by
  obtain ⟨_, f, _, _, t, s, k, _⟩ := check_facts hc
  rw [keyL_parts]
  have m5 : ∀ a b : Int, mark a b < 256 := by intro a b; unfold mark; split <;> omega
  refine Bys.app (ordL_bys _ hr) (Bys.app (fun x hx => by simp at hx; omega) (Bys.app (fun x hx => by simp at hx; rw [hx]; exact m5 _ _) (Bys.app ?_ (Bys.app (be8_bys _) (Bys.app (be8_bys _) (Bys.app (fun x hx => by simp at hx; omega) (fun x hx => by simp at hx)))))))
  split
  · intro x hx; simp at hx
  · exact Bys.app (ordL_bys _ hq) (fun x hx => by simp at hx; rw [hx]; exact m5 _ _)
theorem keyL_len {e : EntD} (hc : checkS e = 0) : (keyL e).length ≤ 2000 := by
  obtain ⟨f1, f, f3, _, t, s, k, _⟩ := check_facts hc
  rw [keyL_parts]
  have l1 := ordL_len e.row
  have l2 := ordL_len e.qual
  have c1 : e.row.count 0 ≤ e.row.length := List.count_le_length
  have c2 : e.qual.count 0 ≤ e.qual.length := List.count_le_length
  split <;> simp [be8] <;> omega

end Go.Proofs.Ytemdhpjoakldhaa

namespace Go.Proofs.Ytemdhpjoakldhaa
open Go.RowKit
set_option linter.unusedVariables false

theorem ruint_uintF : ∀ (f u i q : Nat) (rest : List Nat), i + f = 9 → u < 128 ^ (f + 1) → (0 < i → 0 < u) → q < 128 ^ i → q + u * 128 ^ i < 18446744073709551616 → ruint f (uintF f u ++ rest) i q = (q + u * 128 ^ i, i + (uintF f u).length, 0) := by
  intro f
  induction f with
  | zero =>
    intro u i q rest hi hu hp hq ht
    have hi9 : i = 9 := by omega
    subst hi9
    have hu1 : u ≤ 1 := by
      have e : (128 : Nat) ^ 9 = 9223372036854775808 := by decide
      rw [e] at ht
      omega
    show ruint 0 (u :: rest) 9 q = _
    unfold ruint
    rw [if_neg (by omega), if_neg (by omega), if_neg (by omega)]
    rw [Nat.mod_eq_of_lt (by omega)]
    rfl
  | succ f ih =>
    intro u i q rest hi hu hp hq ht
    by_cases h127 : 127 < u
    · rw [uintF_go f u h127, List.cons_append]
      unfold ruint
      rw [if_neg (by omega), if_pos (by omega)]
      have e1 : (u % 128 + 128) % 128 = u % 128 := by omega
      rw [e1]
      have e2 : q + u % 128 * 128 ^ i + u / 128 * 128 ^ (i + 1) = q + u * 128 ^ i := by
        have : u * 128 ^ i = (128 * (u / 128) + u % 128) * 128 ^ i := by rw [Nat.div_add_mod]
        rw [this, Nat.add_mul, Nat.pow_succ]
        have : u / 128 * (128 ^ i * 128) = 128 * (u / 128) * 128 ^ i := by rw [Nat.mul_comm (128 ^ i) 128, ← Nat.mul_assoc, Nat.mul_comm (u / 128) 128]
        omega
      rw [ih (u / 128) (i + 1) _ rest (by omega) (by rw [Nat.pow_succ] at hu; exact Nat.div_lt_of_lt_mul (by rw [Nat.mul_comm]; exact hu)) (by omega) (next_lt q u i hq) (by rw [e2]; exact ht), e2]
      simp
      omega
    · rw [uintF_stop (f + 1) u (by omega)]
      show ruint (f + 1) (u :: rest) i q = _
      unfold ruint
      rw [if_neg (by omega), if_neg (by omega), if_neg (by omega), Nat.mod_eq_of_lt (by omega)]
      rfl

/-- What Uint writes, ReadUint reads, wherever it stands. -/
theorem uint_trip (v : Nat) (hv : v < 18446744073709551616) (pre rest : List Nat) : uintR (pre ++ (uintL v ++ rest)) pre.length = (v, pre.length + (uintL v).length, 0) := by
  unfold uintR
  rw [List.drop_left]
  have := ruint_uintF 9 v 0 0 rest rfl (Nat.lt_of_lt_of_le hv (by decide)) (by omega) (by simp) (by simpa using hv)
  rw [uintL, this]
  simp
/-- What Bytes writes, ReadBytes reads, wherever it stands. -/
theorem bytes_trip (bs : List Nat) (hl : bs.length < 18446744073709551616) (most : Nat) (hm : bs.length ≤ most) (pre rest : List Nat) :
    bytesR (pre ++ (bytesL bs ++ rest)) pre.length most = (bs, pre.length + (bytesL bs).length, 0) := by
  unfold bytesR bytesL
  rw [List.append_assoc (uintL bs.length) bs rest, uint_trip bs.length hl pre (bs ++ rest)]
  have h1 : ¬ most < bs.length := by omega
  have h2 : ¬ (pre ++ (uintL bs.length ++ (bs ++ rest))).length < pre.length + (uintL bs.length).length + bs.length := by simp; omega
  simp only [ne_eq, not_true_eq_false, if_false, h1, h2]
  have e : pre ++ (uintL bs.length ++ (bs ++ rest)) = (pre ++ uintL bs.length) ++ (bs ++ rest) := by simp
  rw [e, show pre.length + (uintL bs.length).length = (pre ++ uintL bs.length).length by simp, List.drop_left, List.take_left]
  simp
  omega

end Go.Proofs.Ytemdhpjoakldhaa

namespace Go.Proofs.Ytemdhpjoakldhaa
open Go.RowKit
set_option linter.unusedVariables false

theorem num8_be8 (n : Nat) (h : n < 18446744073709551616) : num8 (be8 n) = n := by
  simp only [num8, be8, List.foldl]
  omega
theorem rise_trip (n : Nat) (hn : n < 9223372036854775808) (pre rest : List Nat) : riseR (pre ++ (be8 n ++ rest)) pre.length = (n, pre.length + 8, 0) := by
  have e : ((pre ++ (be8 n ++ rest)).drop pre.length).take 8 = be8 n := by
    rw [List.drop_left, List.take_append_of_le_length (by simp [be8]), List.take_of_length_le (by simp [be8])]
  unfold riseR
  rw [e, num8_be8 n (by omega), if_neg (by simp [be8]), if_neg (by omega)]
theorem fall_trip (n : Nat) (hn : n < 9223372036854775808) (pre rest : List Nat) : fallR (pre ++ (be8 (9223372036854775807 - n) ++ rest)) pre.length = (n, pre.length + 8, 0) := by
  unfold fallR
  rw [rise_trip _ (by omega)]
  simp
  omega
theorem rord_trip : ∀ (l acc rest : List Nat) (i : Nat), rord (ordL l ++ rest) acc i = (acc ++ l, i + (ordL l).length, 0) := by
  intro l
  induction l with
  | nil =>
    intro acc rest i
    show rord (0 :: 1 :: rest) acc i = _
    unfold rord
    simp [ordL, escL]
  | cons c l ih =>
    intro acc rest i
    by_cases hc : c = 0
    · have e : ordL (c :: l) = 0 :: 255 :: ordL l := by simp [ordL, escL, hc]
      rw [e]
      show rord (0 :: 255 :: (ordL l ++ rest)) acc i = _
      unfold rord
      rw [if_neg (by simp), if_neg (by simp), if_pos rfl, ih]
      simp [hc]
      omega
    · have e : ordL (c :: l) = c :: ordL l := by simp [ordL, escL, hc]
      rw [e]
      show rord (c :: (ordL l ++ rest)) acc i = _
      have h1 := ih (acc ++ [c]) rest (i + 1)
      cases hx : ordL l ++ rest with
      | nil =>
        exfalso
        simp [ordL] at hx
      | cons d r =>
        rw [hx] at h1
        unfold rord
        rw [if_pos hc, h1]
        simp
        omega
theorem ord_trip (bs pre rest : List Nat) : ordR (pre ++ (ordL bs ++ rest)) pre.length = (bs, pre.length + (ordL bs).length, 0) := by
  unfold ordR
  rw [List.drop_left, rord_trip]
  simp

end Go.Proofs.Ytemdhpjoakldhaa

namespace Go.Proofs.Ytemdhpjoakldhaa
open Go.RowKit
set_option linter.unusedVariables false

theorem ruint_back : ∀ (f : Nat) (l : List Nat) (i v V c : Nat), ruint f l i v = (V, c, 0) → i + f = 9 → Bys l → ∃ u, V = v + u * 128 ^ i ∧ uintF f u = l.take (c - i) ∧ (0 < i → 0 < u) ∧ i < c := by
  intro f
  induction f with
  | zero =>
    intro l i v V c h hi hb
    cases l with
    | nil => simp [ruint] at h
    | cons x r =>
      unfold ruint at h
      split at h
      · simp at h
      · split at h
        · simp at h
        · split at h
          · simp at h
          · rename_i h1 h2 h3
            simp only [Prod.mk.injEq, and_true] at h
            obtain ⟨rfl, rfl⟩ := h
            refine ⟨x, by rw [Nat.mod_eq_of_lt (by omega)], ?_, fun hp => by omega, by omega⟩
            simp [uintF]
  | succ f ih =>
    intro l i v V c h hi hb
    cases l with
    | nil => simp [ruint] at h
    | cons x r =>
      have hx := hb x (by simp)
      unfold ruint at h
      split at h
      · simp at h
      · split at h
        · rename_i h1 h2
          obtain ⟨u, hu1, hu2, hu3, hu4⟩ := ih r (i + 1) _ V c h (by omega) (fun y hy => hb y (by simp [hy]))
          have hu0 := hu3 (by omega)
          refine ⟨x % 128 + 128 * u, ?_, ?_, fun _ => by omega, by omega⟩
          · rw [hu1, Nat.pow_succ, Nat.add_mul]
            have : u * (128 ^ i * 128) = 128 * u * 128 ^ i := by rw [Nat.mul_comm (128 ^ i) 128, ← Nat.mul_assoc, Nat.mul_comm u 128]
            omega
          · rw [uintF_go f _ (by omega)]
            have e1 : (x % 128 + 128 * u) % 128 + 128 = x := by omega
            have e2 : (x % 128 + 128 * u) / 128 = u := by omega
            rw [e1, e2, hu2, show c - i = (c - (i + 1)) + 1 by omega]
            rfl
        · split at h
          · simp at h
          · rename_i h1 h2 h3
            simp only [Prod.mk.injEq, and_true] at h
            obtain ⟨rfl, rfl⟩ := h
            refine ⟨x, by rw [Nat.mod_eq_of_lt (by omega)], ?_, fun hp => by omega, by omega⟩
            rw [uintF_stop (f + 1) x (by omega)]
            simp
/-- What ReadUint reads, Uint writes just so. -/
theorem uint_back {bs : List Nat} {k V P : Nat} (hb : Bys bs) (h : uintR bs k = (V, P, 0)) : uintL V = (bs.take P).drop k := by
  unfold uintR at h
  simp only [Prod.mk.injEq] at h
  obtain ⟨h1, h2, h3⟩ := h
  rw [if_pos h3] at h2
  obtain ⟨u, hu1, hu2, _, _⟩ := ruint_back 9 (bs.drop k) 0 0 V (ruint 9 (bs.drop k) 0 0).2.1 (Prod.ext h1 (Prod.ext rfl h3)) rfl (fun x hx => hb x (List.mem_of_mem_drop hx))
  have : u = V := by simpa using hu1.symm
  subst this
  unfold uintL
  rw [hu2, ← h2, List.drop_take]
  simp
/-- What ReadBytes reads, Bytes writes just so. -/
theorem bytes_back {bs L : List Nat} {k P most : Nat} (hb : Bys bs) (hk : k ≤ bs.length) (h : bytesR bs k most = (L, P, 0)) : bytesL L = (bs.take P).drop k ∧ k < P ∧ P ≤ bs.length ∧ L.length ≤ bs.length := by
  unfold bytesR at h
  obtain ⟨R, hR⟩ : ∃ R, R = uintR bs k := ⟨_, rfl⟩
  rw [← hR] at h
  obtain ⟨V, p, E⟩ := R
  simp only at h
  split at h
  · rename_i he; simp only [Prod.mk.injEq] at h; omega
  · rename_i he
    have hE : E = 0 := by omega
    subst hE
    split at h
    · simp at h
    · split at h
      · simp at h
      · rename_i h1 h2
        simp only [Prod.mk.injEq, and_true] at h
        obtain ⟨rfl, rfl⟩ := h
        obtain ⟨hkp, hpn, hV⟩ := uintR_ok hR.symm hk
        have hu := uint_back hb hR.symm
        have hl : ((bs.drop p).take V).length = V := by rw [List.length_take, List.length_drop]; omega
        refine ⟨?_, by omega, by omega, by rw [hl]; omega⟩
        unfold bytesL
        rw [hl, hu]
        have e : bs.take (p + V) = bs.take p ++ (bs.drop p).take V := by rw [List.take_add]
        rw [e, List.drop_append_of_le_length (by rw [List.length_take]; omega)]
theorem rord_back : ∀ (m : Nat) (l acc : List Nat) (i : Nat) (L : List Nat) (c : Nat), l.length ≤ m → rord l acc i = (L, c, 0) → ∃ t, L = acc ++ t ∧ ordL t = l.take (c - i) ∧ i < c ∧ c ≤ i + l.length := by
  intro m
  induction m with
  | zero =>
    intro l acc i L c hl h
    have : l = [] := List.eq_nil_of_length_eq_zero (by omega)
    subst this
    simp [rord] at h
  | succ m ih =>
    intro l acc i L c hl h
    match l, hl, h with
    | [], _, h => simp [rord] at h
    | [x], _, h => simp [rord] at h
    | x :: d :: r, hl, h =>
      unfold rord at h
      split at h
      · rename_i hx
        obtain ⟨t, h1, h2, h3, h4⟩ := ih (d :: r) _ _ L c (by simp at hl ⊢; omega) h
        refine ⟨x :: t, by rw [h1]; simp, ?_, by omega, by simp at h4 ⊢; omega⟩
        have e : ordL (x :: t) = x :: ordL t := by simp [ordL, escL, hx]
        rw [e, h2, show c - i = (c - (i + 1)) + 1 by omega]
        rfl
      · rename_i hx
        have hx0 : x = 0 := by omega
        subst hx0
        split at h
        · rename_i hd
          subst hd
          simp only [Prod.mk.injEq, and_true] at h
          obtain ⟨rfl, rfl⟩ := h
          refine ⟨[], by simp, ?_, by omega, by simp⟩
          rw [show i + 2 - i = 2 by omega]
          simp [ordL, escL]
        · split at h
          · rename_i hd
            subst hd
            obtain ⟨t, h1, h2, h3, h4⟩ := ih r _ _ L c (by simp at hl ⊢; omega) h
            refine ⟨0 :: t, by rw [h1]; simp, ?_, by omega, by simp; omega⟩
            have e : ordL (0 :: t) = 0 :: 255 :: ordL t := by simp [ordL, escL]
            rw [e, h2, show c - i = (c - (i + 2)) + 1 + 1 by omega]
            rfl
          · simp at h
/-- What ReadOrdered reads, Ordered writes just so. -/
theorem ord_back {bs L : List Nat} {k P : Nat} (hk : k ≤ bs.length) (h : ordR bs k = (L, P, 0)) : ordL L = (bs.take P).drop k ∧ k < P ∧ P ≤ bs.length := by
  unfold ordR at h
  simp only [Prod.mk.injEq] at h
  obtain ⟨h1, h2, h3⟩ := h
  rw [if_pos h3] at h2
  obtain ⟨t, e1, e2, e3, e4⟩ := rord_back _ (bs.drop k) [] 0 L (rord (bs.drop k) [] 0).2.1 (Nat.le_refl _) (Prod.ext h1 (Prod.ext rfl h3))
  rw [List.nil_append] at e1
  subst e1
  rw [List.length_drop] at e4
  refine ⟨?_, by omega, by omega⟩
  rw [e2, ← h2, List.drop_take]
  simp
theorem be8_num8 (a b c d e f g h : Nat) (ha : a < 256) (hb : b < 256) (hc : c < 256) (hd : d < 256) (he : e < 256) (hf : f < 256) (hg : g < 256) (hh : h < 256) : be8 (num8 [a, b, c, d, e, f, g, h]) = [a, b, c, d, e, f, g, h] := by
  simp [be8, num8]
  omega
/-- What ReadRising reads, Rising writes just so. -/
theorem rise_back {bs : List Nat} {k V P : Nat} (hb : Bys bs) (h : riseR bs k = (V, P, 0)) : be8 V = (bs.take P).drop k ∧ k < P ∧ P ≤ bs.length ∧ V < 9223372036854775808 := by
  unfold riseR at h
  split at h
  · simp at h
  · split at h
    · simp at h
    · rename_i h1 h2
      simp only [Prod.mk.injEq, and_true] at h
      obtain ⟨rfl, rfl⟩ := h
      have hl : ((bs.drop k).take 8).length = 8 := by rw [List.length_take, List.length_drop]; omega
      have hby : Bys ((bs.drop k).take 8) := fun x hx => hb x (List.mem_of_mem_drop (List.mem_of_mem_take hx))
      have e : (bs.take (k + 8)).drop k = (bs.drop k).take 8 := by rw [List.drop_take]; congr 1; omega
      refine ⟨?_, by omega, by omega, by omega⟩
      rw [e]
      generalize (bs.drop k).take 8 = L at *
      match L, hl with
      | [a, b, c, d, e, f, g, h], _ => exact be8_num8 a b c d e f g h (hby _ (by simp)) (hby _ (by simp)) (hby _ (by simp)) (hby _ (by simp)) (hby _ (by simp)) (hby _ (by simp)) (hby _ (by simp)) (hby _ (by simp))
theorem be4_rdle (a b c d : Nat) (ha : a < 256) (hb : b < 256) (hc : c < 256) (hd : d < 256) : be4 (rdle d c b a) = [a, b, c, d] := by
  simp [be4, rdle]; omega
theorem le4_rdle (a b c d : Nat) (ha : a < 256) (hb : b < 256) (hc : c < 256) (hd : d < 256) : le4 (rdle a b c d) = [a, b, c, d] := by
  simp [le4, rdle]; omega
theorem four {l : List Nat} (h : 4 ≤ l.length) : l.take 4 = [l.getD 0 0, l.getD 1 0, l.getD 2 0, l.getD 3 0] := by
  match l, h with
  | a :: b :: c :: d :: r, _ => simp
/-- What ReadFrame reads, Frame writes just so. -/
theorem frame_back {bs L : List Nat} {k P : Nat} (hb : Bys bs) (hk : k ≤ bs.length) (h : frameR bs k = (L, P, 0)) : frameL L = (bs.take P).drop k ∧ k < P ∧ P ≤ bs.length ∧ L.length ≤ 1048576 := by
  have hbd : Bys (bs.drop k) := fun x hx => hb x (List.mem_of_mem_drop hx)
  obtain ⟨H, hH⟩ : ∃ H, H = headR (bs.drop k) := ⟨_, rfl⟩
  unfold frameR at h
  rw [← hH] at h
  obtain ⟨N, E⟩ := H
  simp only at h
  split at h
  · rename_i he; simp only [Prod.mk.injEq] at h; omega
  · rename_i he
    have hE : E = 0 := by omega
    subst hE
    split at h
    · simp at h
    · rename_i hlen
      split at h
      · simp at h
      · rename_i hsum
        simp only [Prod.mk.injEq, and_true] at h
        obtain ⟨rfl, rfl⟩ := h
        have hsum : rdle ((bs.drop (k + 8 + N)).getD 0 0) ((bs.drop (k + 8 + N)).getD 1 0) ((bs.drop (k + 8 + N)).getD 2 0) ((bs.drop (k + 8 + N)).getD 3 0) = sumL ((bs.drop (k + 8)).take N) := by
          by_cases hs : rdle ((bs.drop (k + 8 + N)).getD 0 0) ((bs.drop (k + 8 + N)).getD 1 0) ((bs.drop (k + 8 + N)).getD 2 0) ((bs.drop (k + 8 + N)).getD 3 0) = sumL ((bs.drop (k + 8)).take N)
          · exact hs
          · exact absurd hs hsum
        have hl : ((bs.drop (k + 8)).take N).length = N := by rw [List.length_take, List.length_drop]; omega
        unfold headR at hH
        rw [List.length_drop] at hH
        rw [if_neg (by omega)] at hH
        split at hH
        · simp at hH
        · rename_i hs4
          split at hH
          · simp at hH
          · rename_i hbig
            simp only [Prod.mk.injEq, and_true] at hH
            have hs4' : rdle ((bs.drop k).getD 4 0) ((bs.drop k).getD 5 0) ((bs.drop k).getD 6 0) ((bs.drop k).getD 7 0) = sumL ((bs.drop k).take 4) := by
              by_cases hs : rdle ((bs.drop k).getD 4 0) ((bs.drop k).getD 5 0) ((bs.drop k).getD 6 0) ((bs.drop k).getD 7 0) = sumL ((bs.drop k).take 4)
              · exact hs
              · exact absurd hs hs4
            have hbe : be4 N = (bs.drop k).take 4 := by
              rw [hH, four (by rw [List.length_drop]; omega)]
              exact be4_rdle _ _ _ _ (hbd.get 0) (hbd.get 1) (hbd.get 2) (hbd.get 3)
            have hle : le4 (sumL (be4 N)) = ((bs.drop k).drop 4).take 4 := by
              rw [hbe, ← hs4', four (l := (bs.drop k).drop 4) (by simp; omega), le4_rdle _ _ _ _ (hbd.get 4) (hbd.get 5) (hbd.get 6) (hbd.get 7)]
              simp
            have hle2 : le4 (sumL ((bs.drop (k + 8)).take N)) = (bs.drop (k + 8 + N)).take 4 := by
              have hb2 : Bys (bs.drop (k + 8 + N)) := fun x hx => hb x (List.mem_of_mem_drop hx)
              rw [← hsum, four (l := bs.drop (k + 8 + N)) (by rw [List.length_drop]; omega)]
              exact le4_rdle _ _ _ _ (hb2.get 0) (hb2.get 1) (hb2.get 2) (hb2.get 3)
            refine ⟨?_, by omega, by omega, by rw [hl]; omega⟩
            unfold frameL
            rw [hl, hle2, hle, hbe]
            have e : (bs.take (k + 12 + N)).drop k = (bs.drop k).take (12 + N) := by rw [List.drop_take]; congr 1; omega
            rw [e, show 12 + N = 4 + (4 + (N + 4)) by omega, List.take_add, List.take_add (i := 4) (j := N + 4), List.take_add (i := N) (j := 4)]
            simp [List.drop_drop, List.append_assoc, Nat.add_assoc]

end Go.Proofs.Ytemdhpjoakldhaa
