import Derived.Test.YthpdlclgiggekaaCell9
import Derived.Test.YthpdlclgiggekaaRefNum2
import Derived.Lib.SmallJoins
namespace Go.Proofs.Ythpdlclgiggekaa
open Go.RowKit
set_option linter.unusedVariables false

/-- The entry that may be, and its key. -/
def plainD (vr vq vv : Value) : EntD := ⟨vr, 1, vq, 5, 32, 1, vv, [114], [113], [118]⟩
def zeroD : EntD := ⟨.slice none 0 0, 0, .slice none 0 0, 0, 0, 0, .slice none 0 0, [], [], []⟩
theorem rd_one {w : World} {g x : Nat} (h : w.cell? ⟨g, 0, none⟩ = some (.int .u8 (x : Int))) (hx : x < 256) : Rd w (.slice (some ⟨g, 0, none⟩) 1 1) [x] :=
  ⟨fun y hy => by simp at hy; omega, _, 1, rfl, Nat.le_refl _, by decide, by simp, .inr ⟨g, 0, rfl⟩, .inr ⟨g, 0, rfl, fun i hi => by
    obtain rfl : i = 0 := by simp at hi; omega
    simpa using h⟩⟩
theorem Apart.cell {g : Nat} {w w' : World} (h : Apart g w w') {k i : Nat} {x : Value} (hx : w.cell? ⟨k, i, none⟩ = some x) (hk : k ≠ g) : w'.cell? ⟨k, i, none⟩ = some x := by
  have hl : k < w.heap.size := World.block_lt_of_cell? w _ hx
  have e := h.block k hl hk
  unfold World.cell? at hx ⊢
  rw [e]
  exact hx


/-- Three byte strings behind an entry. -/
theorem three (w : World) (E : EntD) : ∃ w4, w4 = (((w.alloc (.cells E.cells 35)).alloc (.cells #[.int .u8 114] 5 (1, 2))).alloc (.cells #[.int .u8 113] 5 (1, 2))).alloc (.cells #[.int .u8 118] 5 (1, 2)) ∧ EBox w4 w.heap.size E ∧
    w4.cell? ⟨w.heap.size + 1, 0, none⟩ = some (.int .u8 114) ∧ w4.cell? ⟨w.heap.size + 2, 0, none⟩ = some (.int .u8 113) ∧ w4.cell? ⟨w.heap.size + 3, 0, none⟩ = some (.int .u8 118) ∧ Below w.heap.size w w4 := by
  have A1 := (Below.refl w.heap.size w).alloc (Nat.le_refl _) (.cells E.cells 35)
  have b1 := EBox.new w E
  have s1 : (w.alloc (.cells E.cells 35)).heap.size = w.heap.size + 1 := by simp
  obtain ⟨w1, hw1⟩ : ∃ w1, w1 = w.alloc (.cells E.cells 35) := ⟨_, rfl⟩
  rw [← hw1] at A1 b1 s1
  have A2 := (Below.refl w1.heap.size w1).alloc (Nat.le_refl _) (.cells #[.int .u8 114] 5 (1, 2))
  have s2 : (w1.alloc (.cells #[.int .u8 114] 5 (1, 2))).heap.size = w.heap.size + 2 := by simp [s1]
  have c2 : (w1.alloc (.cells #[.int .u8 114] 5 (1, 2))).cell? ⟨w.heap.size + 1, 0, none⟩ = some (.int .u8 114) := by rw [Joins.cell_alloc_mark_at _ _ _ _ _ _ s1.symm]; rfl
  obtain ⟨w2, hw2⟩ : ∃ w2, w2 = w1.alloc (.cells #[.int .u8 114] 5 (1, 2)) := ⟨_, rfl⟩
  rw [← hw2] at A2 s2 c2
  have A3 := (Below.refl w2.heap.size w2).alloc (Nat.le_refl _) (.cells #[.int .u8 113] 5 (1, 2))
  have s3 : (w2.alloc (.cells #[.int .u8 113] 5 (1, 2))).heap.size = w.heap.size + 3 := by simp [s2]
  have c3 : (w2.alloc (.cells #[.int .u8 113] 5 (1, 2))).cell? ⟨w.heap.size + 2, 0, none⟩ = some (.int .u8 113) := by rw [Joins.cell_alloc_mark_at _ _ _ _ _ _ s2.symm]; rfl
  obtain ⟨w3, hw3⟩ : ∃ w3, w3 = w2.alloc (.cells #[.int .u8 113] 5 (1, 2)) := ⟨_, rfl⟩
  rw [← hw3] at A3 s3 c3
  have A4 := (Below.refl w3.heap.size w3).alloc (Nat.le_refl _) (.cells #[.int .u8 118] 5 (1, 2))
  have c4 : (w3.alloc (.cells #[.int .u8 118] 5 (1, 2))).cell? ⟨w.heap.size + 3, 0, none⟩ = some (.int .u8 118) := by rw [Joins.cell_alloc_mark_at _ _ _ _ _ _ s3.symm]; rfl
  obtain ⟨w4, hw4⟩ : ∃ w4, w4 = w3.alloc (.cells #[.int .u8 118] 5 (1, 2)) := ⟨_, rfl⟩
  rw [← hw4] at A4 c4
  refine ⟨w4, by rw [hw4, hw3, hw2, hw1], ((b1.later A2).later A3).later A4, ?_, ?_, c4, ((A1.trans (A2.mono A1.size)).trans (A3.mono (by omega))).trans (A4.mono (by omega))⟩
  · rw [A4.cell (p := ⟨w.heap.size + 1, 0, none⟩) (by simp; omega), A3.cell (p := ⟨w.heap.size + 1, 0, none⟩) (by simp; omega)]; exact c2
  · rw [A4.cell (p := ⟨w.heap.size + 2, 0, none⟩) (by simp; omega)]; exact c3

set_option maxRecDepth 100000 in
set_option maxHeartbeats 1000000 in
theorem plain_any (w : World) : Calls Try.prog 55 #[] w fun e w' => ∃ vr vq vv, e = .returned (.agg (plainD vr vq vv).cells) ∧ EntD.Ok w' (plainD vr vq vv) ∧ Below w.heap.size w w' := by
  have k1 := Joins.run_convert_bytes_const_at (P := Try.prog) (w.alloc (.cells zeroD.cells 35)) 33 5 #[.int .u8 114] 1 1 (w.heap.size + 1) (by simp) und_bytes und_byte
  have k2 := Joins.run_convert_bytes_const_at (P := Try.prog) ((w.alloc (.cells zeroD.cells 35)).alloc (.cells #[.int .u8 114] 5 (1, 2))) 33 5 #[.int .u8 113] 1 1 (w.heap.size + 2) (by simp) und_bytes und_byte
  have k3 := Joins.run_convert_bytes_const_at (P := Try.prog) (((w.alloc (.cells zeroD.cells 35)).alloc (.cells #[.int .u8 114] 5 (1, 2))).alloc (.cells #[.int .u8 113] 5 (1, 2))) 33 5 #[.int .u8 118] 1 1 (w.heap.size + 3) (by simp) und_bytes und_byte
  simp only [zeroD, EntD.cells, List.size_toArray, List.length_cons, List.length_nil, Nat.zero_add] at k1 k2 k3
  obtain ⟨w4, hw4, bx, d2, d3, d4, bel⟩ := three w (plainD (.slice (some ⟨w.heap.size + 1, 0, none⟩) 1 1) (.slice (some ⟨w.heap.size + 2, 0, none⟩) 1 1) (.slice (some ⟨w.heap.size + 3, 0, none⟩) 1 1))
  have HF : Hid (_ ∧ _ ∧ _ ∧ _ ∧ _ ∧ _) := ⟨hw4, bx, d2, d3, d4, bel⟩
  clear bx d2 d3 d4 bel hw4
  simp only [plainD, EntD.cells] at HF
  go_enter Try.func55, Try.ntmps55
  go_wp2
  clear k1 k2 k3
  obtain ⟨hw4, bx, d2, d3, d4, bel⟩ := HF.out
  clear HF
  rw [← hw4]
  have y0 := bx.vr
  have y1 := bx.fam
  have y2 := bx.vq
  have y3 := bx.ts
  have y4 := bx.seq
  have y5 := bx.kind
  have y6 := bx.vv
  simp only at y0 y1 y2 y3 y4 y5 y6
  refine bodyPost_ret (v := .agg (plainD (.slice (some ⟨w.heap.size + 1, 0, none⟩) 1 1) (.slice (some ⟨w.heap.size + 2, 0, none⟩) 1 1) (.slice (some ⟨w.heap.size + 3, 0, none⟩) 1 1)).cells) (by simp [results, Try.results55, go_sem, y0, y1, y2, y3, y4, y5, y6, plainD, EntD.cells]) rfl ?_
  exact ⟨_, _, _, rfl, ⟨rd_one d2 (by decide), rd_one d3 (by decide), rd_one d4 (by decide)⟩, bel⟩

def plainK : List Nat := [114, 0, 1, 1, 1, 113, 0, 1, 1, 127, 255, 255, 255, 255, 255, 255, 250, 127, 255, 255, 255, 255, 255, 255, 223, 1]
theorem plainK_bys : Bys plainK := by
  have h : ∀ x ∈ plainK, x < 256 := by decide
  exact h
theorem be8_a : be8 (9223372036854775807 - 5) = [127, 255, 255, 255, 255, 255, 255, 250] := by decide +kernel
theorem be8_b : be8 (9223372036854775807 - 32) = [127, 255, 255, 255, 255, 255, 255, 223] := by decide +kernel
theorem keyL_plain (vr vq vv : Value) : keyL (plainD vr vq vv) = plainK := by
  have h1 : ordL [114] = [114, 0, 1] := by simp [ordL, escL]
  have h2 : ordL [113] = [113, 0, 1] := by simp [ordL, escL]
  show ((((ordL [114] ++ [1, mark 1 5]) ++ (if (1 : Int) = 5 then [] else ordL [113] ++ [mark 1 4])) ++ be8 (9223372036854775807 - 5)) ++ be8 (9223372036854775807 - 32)) ++ [1] = plainK
  rw [h1, h2, be8_a, be8_b]
  simp [mark, plainK]

set_option maxRecDepth 100000 in
theorem refOut_in (n lo hi : Int) (w : World) (h1 : lo ≤ n) (h2 : n ≤ hi) : Calls Try.prog 53 #[.int .i64 n, .int .i64 lo, .int .i64 hi] w fun e w' => e = .returned (.bool false) ∧ w' = w := by
  have d1 : decide (n < lo) = false := by simpa using h1
  have d2 : decide (hi < n) = false := by simpa using h2
  go_enter Try.func53, Try.ntmps53
  go_wp2
  go_ret
  exact ⟨by first | rfl | simp [d1, d2], rfl⟩

end Go.Proofs.Ythpdlclgiggekaa
