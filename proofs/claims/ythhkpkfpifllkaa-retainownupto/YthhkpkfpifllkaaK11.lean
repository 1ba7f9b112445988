import Derived.Test.YthhkpkfpifllkaaK10
import Derived.Shelf.SlSortCmp.WholeK
namespace Go.Proofs.Ythhkpkfpifllkaa
open Go.RowKit
set_option linter.unusedVariables false

def laidSort : Go.Shelf.Ren := ⟨fun | 6 => 34 | 14 => 47 | 15 => 48 | 20 => 61 | 21 => 62 | 22 => 63 | 23 => 64 | 24 => 65 | 25 => 66 | 26 => 67 | 27 => 68 | 28 => 69 | 29 => 70 | 46 => 83 | 47 => 84 | 48 => 85 | 49 => 86 | 50 => 87 | 57 => 94 | n => n, fun | 0 => 0 | 3 => 3 | 4 => 4 | 5 => 5 | 9 => 9 | 22 => 25 | 24 => 45 | 25 => 83 | 39 => 102 | 45 => 113 | 46 => 114 | 50 => 99 | 53 => 120 | 55 => 122 | 66 => 127 | 70 => 131 | 76 => 137 | 77 => 138 | n => n, fun n => n⟩
set_option maxRecDepth 100000 in
theorem laysSort : SlLaysF0.n6 Try.prog laidSort := {
  mixed := by kernel_rfl,
  f6 := ⟨ "slices.SortFunc[[]strata/api.Entry,strata/api.Entry]", by decide, Try.func34.trans (congrArg some (by kernel_rfl))⟩,
  f14 := ⟨ "slices.pdqsortCmpFunc[strata/api.Entry]", by decide, Try.func47.trans (congrArg some (by kernel_rfl))⟩,
  f15 := Try.func48.trans (congrArg some (by kernel_rfl)),
  f20 := ⟨ "slices.insertionSortCmpFunc[strata/api.Entry]", by decide, Try.func61.trans (congrArg some (by kernel_rfl))⟩,
  f21 := ⟨ "slices.heapSortCmpFunc[strata/api.Entry]", by decide, Try.func62.trans (congrArg some (by kernel_rfl))⟩,
  f22 := ⟨ "slices.breakPatternsCmpFunc[strata/api.Entry]", by decide, Try.func63.trans (congrArg some (by kernel_rfl))⟩,
  f23 := ⟨ "slices.choosePivotCmpFunc[strata/api.Entry]", by decide, Try.func64.trans (congrArg some (by kernel_rfl))⟩,
  f24 := ⟨ "slices.reverseRangeCmpFunc[strata/api.Entry]", by decide, Try.func65.trans (congrArg some (by kernel_rfl))⟩,
  f25 := ⟨ "slices.partialInsertionSortCmpFunc[strata/api.Entry]", by decide, Try.func66.trans (congrArg some (by kernel_rfl))⟩,
  f26 := ⟨ "slices.partitionEqualCmpFunc[strata/api.Entry]", by decide, Try.func67.trans (congrArg some (by kernel_rfl))⟩,
  f27 := ⟨ "slices.partitionCmpFunc[strata/api.Entry]", by decide, Try.func68.trans (congrArg some (by kernel_rfl))⟩,
  f28 := Try.func69.trans (congrArg some (by kernel_rfl)),
  f29 := Try.func70.trans (congrArg some (by kernel_rfl)),
  f46 := ⟨ "slices.siftDownCmpFunc[strata/api.Entry]", by decide, Try.func83.trans (congrArg some (by kernel_rfl))⟩,
  f47 := Try.func84.trans (congrArg some (by kernel_rfl)),
  f48 := Try.func85.trans (congrArg some (by kernel_rfl)),
  f49 := ⟨ "slices.medianAdjacentCmpFunc[strata/api.Entry]", by decide, Try.func86.trans (congrArg some (by kernel_rfl))⟩,
  f50 := ⟨ "slices.medianCmpFunc[strata/api.Entry]", by decide, Try.func87.trans (congrArg some (by kernel_rfl))⟩,
  f57 := ⟨ "slices.order2CmpFunc[strata/api.Entry]", by decide, Try.func94.trans (congrArg some (by kernel_rfl))⟩,
  t0 := Try.underlying0,
  a0 := Try.isAgg0,
  z0 := Try.sizeOf0,
  v0 := Try.zeroValue0,
  t3 := Try.underlying3,
  a3 := Try.isAgg3,
  z3 := Try.sizeOf3,
  v3 := Try.zeroValue3,
  t4 := Try.underlying4,
  a4 := Try.isAgg4,
  z4 := Try.sizeOf4,
  v4 := Try.zeroValue4,
  t5 := Try.underlying5,
  a5 := Try.isAgg5,
  z5 := Try.sizeOf5,
  v5 := Try.zeroValue5,
  t9 := Try.underlying9,
  a9 := Try.isAgg9,
  z9 := Try.sizeOf9,
  v9 := Try.zeroValue9,
  t22 := Try.underlying25,
  a22 := Try.isAgg25,
  z22 := Try.sizeOf25,
  v22 := Try.zeroValue25,
  t25 := Try.underlying83,
  a25 := Try.isAgg83,
  z25 := Try.sizeOf83,
  v25 := Try.zeroValue83,
  t39 := Try.underlying102,
  a39 := Try.isAgg102,
  z39 := Try.sizeOf102,
  v39 := Try.zeroValue102,
  t45 := Try.underlying113,
  a45 := Try.isAgg113,
  z45 := Try.sizeOf113,
  v45 := Try.zeroValue113,
  t46 := Try.underlying114,
  a46 := Try.isAgg114,
  z46 := Try.sizeOf114,
  v46 := Try.zeroValue114,
  t50 := Try.underlying99,
  a50 := Try.isAgg99,
  z50 := Try.sizeOf99,
  v50 := Try.zeroValue99,
  t53 := Try.underlying120,
  a53 := Try.isAgg120,
  z53 := Try.sizeOf120,
  v53 := Try.zeroValue120,
  t55 := Try.underlying122,
  a55 := Try.isAgg122,
  z55 := Try.sizeOf122,
  v55 := Try.zeroValue122,
  t66 := Try.underlying127,
  a66 := Try.isAgg127,
  z66 := Try.sizeOf127,
  v66 := Try.zeroValue127,
  t70 := Try.underlying131,
  a70 := Try.isAgg131,
  z70 := Try.sizeOf131,
  v70 := Try.zeroValue131,
  t76 := Try.underlying137,
  a76 := Try.isAgg137,
  z76 := Try.sizeOf137,
  v76 := Try.zeroValue137,
  t77 := Try.underlying138,
  a77 := Try.isAgg138,
  z77 := Try.sizeOf138,
  v77 := Try.zeroValue138 }
end Go.Proofs.Ythhkpkfpifllkaa

namespace Go.Proofs.Ythhkpkfpifllkaa
open Go.RowKit
set_option linter.unusedVariables false

abbrev EA (Z : World) : Type := { x : EntD // EntD.Ok Z x }
def eaZ (Z : World) : EA Z := ⟨⟨.slice none 0 0, 0, .slice none 0 0, 0, 0, 0, .slice none 0 0, [], [], []⟩, by
  have : Rd Z (.slice none 0 0) [] := ⟨(fun x hx => by cases hx), none, 0, rfl, Nat.le_refl _, Nat.zero_le _, Nat.zero_le _, .inl rfl, .inl rfl⟩
  exact ⟨this, this, this⟩⟩
instance (Z : World) : Inhabited (EA Z) := ⟨eaZ Z⟩
def encA (Z : World) (x : EA Z) : List Value := x.1.cells.toList
def cfA (Z : World) (x y : EA Z) : Int := compareS x.1 y.1
theorem swo_cfA (Z : World) : Go.Sort.SWO (ltOf (cfA Z)) := by
  refine ⟨fun x => ?_, fun x y z h k => ?_, fun x y z h k => ?_⟩
  · simp [ltOf, cfA, compareS_self]
  · have h1 : compareS x.1 y.1 < 0 := of_decide_eq_true h
    have k1 : compareS y.1 z.1 < 0 := of_decide_eq_true k
    have := compareS_tri x.1 y.1 z.1
    unfold Tri at this
    exact decide_eq_true (p := compareS x.1 z.1 < 0) (by omega)
  · have h1 : ¬ compareS x.1 y.1 < 0 := of_decide_eq_false h
    have k1 : ¬ compareS y.1 z.1 < 0 := of_decide_eq_false k
    have := compareS_tri x.1 y.1 z.1
    unfold Tri at this
    exact decide_eq_false (p := compareS x.1 z.1 < 0) (by omega)
theorem encA_one (Z : World) (x : EA Z) : ∀ v ∈ encA Z x, v.oneCell' = true := by
  obtain ⟨⟨vr, fam, vq, ts, seq, kind, vv, row, qual, val⟩, r1, r2, r3⟩ := x
  obtain ⟨_, a1, c1, e1, _⟩ := r1
  obtain ⟨_, a2, c2, e2, _⟩ := r2
  obtain ⟨_, a3, c3, e3, _⟩ := r3
  simp only at e1 e2 e3
  subst e1 e2 e3
  intro v hv
  simp only [encA, EntD.cells, List.mem_cons, List.not_mem_nil, or_false] at hv
  rcases hv with rfl | rfl | rfl | rfl | rfl | rfl | rfl <;> rfl
theorem encA_no8 (Z : World) (x : EA Z) (j : Nat) (n : Int) : (encA Z x)[j]? ≠ some (.int .u8 n) := by
  intro h
  have hv := List.mem_of_getElem? h
  obtain ⟨⟨vr, fam, vq, ts, seq, kind, vv, row, qual, val⟩, r1, r2, r3⟩ := x
  obtain ⟨_, a1, c1, e1, _⟩ := r1
  obtain ⟨_, a2, c2, e2, _⟩ := r2
  obtain ⟨_, a3, c3, e3, _⟩ := r3
  simp only at e1 e2 e3
  subst e1 e2 e3
  simp [encA, EntD.cells] at hv
theorem cell_sort {Z : World} {blk off m : Nat} {d dk : Array (EA Z)} {os : Array Obj} (hH : Go.Sort.HoldsK (encA Z) 7 Z blk off d) (hs : dk.size = d.size) {b o : Nat} {n : Int} (hc : Z.cell? ⟨b, o, none⟩ = some (.int .u8 n)) : (sortWorldK (encA Z) 7 Z blk off m dk os).cell? ⟨b, o, none⟩ = some (.int .u8 n) := by
  have lt := World.block_lt_of_cell? Z _ hc
  have hout : b ≠ blk ∨ o < off ∨ off + (Go.Sort.flatK (encA Z) 7 dk).size ≤ o := by
    rw [Go.Sort.size_flatK]
    apply Classical.byContradiction
    intro hn
    have h1 : b = blk := by omega
    have h2 : off ≤ o := by omega
    have h3 : o < off + dk.size * 7 := by omega
    have hj : o - off < d.size * 7 := by omega
    have := (hH (o - off) (by rw [Go.Sort.size_flatK]; exact hj)).1
    rw [Go.Sort.get_flatK _ _ _ _ hj, show off + (o - off) = o by omega, ← h1, hc] at this
    have h4 : (encA Z d[(o - off) / 7]!).length = 7 := rfl
    have h5 : (o - off) % 7 < 7 := Nat.mod_lt _ (by omega)
    refine encA_no8 Z d[(o - off) / 7]! ((o - off) % 7) n ?_
    rw [this]
    show _ = some ((encA Z d[(o - off) / 7]!)[(o - off) % 7]!)
    rw [List.getElem!_eq_getElem?_getD, List.getElem?_eq_getElem (by rw [h4]; exact h5)]
    rfl
  unfold sortWorldK Go.Sort.putRowK
  rw [Go.Sort.cell?_grow _ _ _ (by rw [Go.Sort.size_putRow]; exact lt), Go.Sort.cell?_putRow_other _ _ _ _ _ _ hout]
  exact hc
theorem Rd.sort {Z : World} {blk off m : Nat} {d dk : Array (EA Z)} {os : Array Obj} (hH : Go.Sort.HoldsK (encA Z) 7 Z blk off d) (hs : dk.size = d.size) {x : Value} {bs : List Nat} (r : Rd Z x bs) : Rd (sortWorldK (encA Z) 7 Z blk off m dk os) x bs := by
  obtain ⟨h1, a, cap, rfl, h3, h4, h5, h6, h7⟩ := r
  refine ⟨h1, a, cap, rfl, h3, h4, h5, h6, ?_⟩
  rcases h7 with h7 | ⟨b, o, rfl, hc⟩
  · exact .inl h7
  · exact .inr ⟨b, o, rfl, fun i hi => cell_sort hH hs (hc i hi)⟩
theorem world_grow {W w' : World} (h : BelowD W.heap.size W w') : ∃ q os', w' = Go.Sort.grow (W.drewN q) os' := by
  refine ⟨w'.drawn - W.drawn, w'.heap.extract W.heap.size w'.heap.size, ?_⟩
  have hd := h.d
  have hsz := h.b.size
  have hh : w'.heap = W.heap ++ w'.heap.extract W.heap.size w'.heap.size := by
    apply Array.ext_getElem?
    intro i
    by_cases hi : i < W.heap.size
    · rw [Array.getElem?_append_left hi]
      exact h.b.block i hi
    · rw [Array.getElem?_append_right (by omega), Array.getElem?_extract]
      by_cases h2 : i < w'.heap.size
      · rw [if_pos (by omega), show W.heap.size + (i - W.heap.size) = i by omega]
      · rw [if_neg (by omega), Array.getElem?_eq_none (by omega)]
  have e1 := h.b.os
  have e2 := h.b.tape
  have e3 := h.b.output
  obtain ⟨hp, tp, dr, os, ou⟩ := w'
  simp only at *
  unfold Go.Sort.grow World.drewN
  simp only [World.mk.injEq]
  exact ⟨hh, e2, by omega, e1, e3⟩
theorem cmp_lays {Z : World} {blk off : Nat} {d : Array (EA Z)} (hH : Go.Sort.HoldsK (encA Z) 7 Z blk off d) : CmpLays Try.prog 35 #[] (encA Z) 7 (cfA Z) blk off d.size Z := by
  intro m os dk hs x y
  have e : (#[.agg (encA Z x).toArray, .agg (encA Z y).toArray] ++ #[] : Array Value) = #[.agg x.1.cells, .agg y.1.cells] := by simp [encA]
  rw [e]
  refine Calls.mono (compare_d ⟨x.2.1.sort hH hs, x.2.2.1.sort hH hs, x.2.2.2.sort hH hs⟩ ⟨y.2.1.sort hH hs, y.2.2.1.sort hH hs, y.2.2.2.sort hH hs⟩) ?_
  rintro r w' ⟨rfl, hb⟩
  exact ⟨rfl, world_grow hb⟩
end Go.Proofs.Ythhkpkfpifllkaa

namespace Go.Proofs.Ythhkpkfpifllkaa
open Go.RowKit
set_option linter.unusedVariables false

def Sp.wl (s : Sp) : Nat := if s.waiting then 1 else 0
def Sp.rk (s : Sp) (n : Int) : Prop := 0 ≤ s.rank ∧ s.rank ≤ n
section
variable {fs : List (Int × Int)} {clock : Int}
theorem decide_wl (s : Sp) (e : En) : (decideS fs clock s e).2.waiting = s.waiting := by
  unfold decideS
  repeat' split
  all_goals rfl
theorem decide_rk {s : Sp} {n : Int} (h : s.rk n) (e : En) : (decideS fs clock s e).2.rk (n + 1) := by
  unfold decideS Sp.rk at *
  repeat' split
  all_goals (simp only; omega)
theorem resolve_len (s : Sp) (k : Int) : (resolveS fs clock s k).1.length = s.wl := by
  unfold resolveS Sp.wl
  split <;> rfl
theorem resolve_wl (s : Sp) (k : Int) : (resolveS fs clock s k).2.waiting = false := by
  unfold resolveS
  split
  · rw [decide_wl]
  · rename_i h
    simpa using h
theorem resolve_rk {s : Sp} {n : Int} (h : s.rk n) (k : Int) : (resolveS fs clock s k).2.rk (n + (resolveS fs clock s k).1.length) := by
  unfold resolveS
  split
  · exact decide_rk (s := { s with waiting := false }) h _
  · simpa using h
theorem stretch_wl (s : Sp) (e : En) : (stretchS s e).2.waiting = s.waiting := by unfold stretchS; split <;> rfl
theorem stretch_rk {s : Sp} {n : Int} (h : s.rk n) (e : En) : (stretchS s e).2.rk n := by unfold stretchS; split <;> exact h
theorem left_wl (s : Sp) (f c : Bool) : (leftS s f c).waiting = s.waiting := by unfold leftS; cases f <;> cases c <;> rfl
theorem left_rk {s : Sp} {n : Int} (h : s.rk n) (f c : Bool) : (leftS s f c).rk n := by
  unfold leftS Sp.rk at *
  cases f <;> cases c <;> simp <;> omega
theorem enter_len (s : Sp) (e : En) : (enterS fs clock s e).1.length + (enterS fs clock s e).2.wl = s.wl := by
  unfold enterS
  split
  · simp
  · have h1 := resolve_len (fs := fs) (clock := clock) s 3
    have h2 := resolve_wl (fs := fs) (clock := clock) s 3
    simp only [Sp.wl, left_wl, h2] at *
    simp [h1]
theorem enter_rk {s : Sp} {n : Int} (h : s.rk n) (e : En) : (enterS fs clock s e).2.rk (n + (enterS fs clock s e).1.length) := by
  unfold enterS
  split
  · simpa using h
  · exact left_rk (resolve_rk h 3) _ _
theorem enter_grp {s : Sp} {e : En} (h : sameGrp s e = true) : enterS fs clock s e = ([], s) := by unfold enterS; rw [if_pos h]
theorem enter_new {s : Sp} {e : En} (h : ¬ sameGrp s e = true) : (enterS fs clock s e).2.waiting = false := by
  unfold enterS
  rw [if_neg h]
  show (leftS _ _ _).waiting = false
  rw [left_wl, resolve_wl]
theorem step_len (s : Sp) (e : En) : (stepS fs clock s e).1.length + (stepS fs clock s e).2.wl = s.wl + 1 := by
  have h0 := enter_len (fs := fs) (clock := clock) s e
  unfold stepS
  split
  · have := stretch_wl (enterS fs clock s e).2 e
    simp only [Sp.wl, rememberS, this, List.length_append, List.length_cons, List.length_nil] at *
    omega
  · split
    · rename_i hg
      split
      · have h1 := resolve_len (fs := fs) (clock := clock) (enterS fs clock s e).2 2
        have h2 := resolve_wl (fs := fs) (clock := clock) (enterS fs clock s e).2 2
        simp only [Sp.wl, rememberS, h2, List.length_append, List.length_cons, List.length_nil] at *
        simp only [Bool.false_eq_true, if_false]
        omega
      · show ((enterS fs clock s e).1 ++ [_]).length + (enterS fs clock s e).2.wl = _
        rw [List.length_append, List.length_cons, List.length_nil]
        omega
    · rename_i hg
      have h3 := enter_new (fs := fs) (clock := clock) hg
      split
      · simp only [Sp.wl, rememberS, h3] at *
        simp only [Bool.false_eq_true, if_false, if_true] at *
        omega
      · have h4 := decide_wl (fs := fs) (clock := clock) (enterS fs clock s e).2 e
        simp only [Sp.wl, rememberS, h4, h3, List.length_append, List.length_cons, List.length_nil] at *
        omega
theorem rk_mono {s : Sp} {n m : Int} (h : s.rk n) (k : n ≤ m) : s.rk m := ⟨h.1, Int.le_trans h.2 k⟩
theorem step_rk {s : Sp} {n : Int} (h : s.rk n) (e : En) : (stepS fs clock s e).2.rk (n + (stepS fs clock s e).1.length) := by
  have h0 := enter_rk (fs := fs) (clock := clock) h e
  unfold stepS
  split
  · refine rk_mono (show Sp.rk (rememberS _ e) _ from stretch_rk h0 e) ?_
    simp only [List.length_append]
    omega
  · split
    · split
      · refine rk_mono (show Sp.rk (rememberS _ e) _ from resolve_rk h0 2) ?_
        simp only [List.length_append]
        omega
      · refine rk_mono (show Sp.rk (rememberS _ e) _ from h0) ?_
        simp only [List.length_append]
        omega
    · split
      · exact h0
      · refine rk_mono (show Sp.rk (rememberS _ e) _ from decide_rk h0 e) ?_
        simp only [List.length_append, List.length_cons, List.length_nil]
        omega
theorem step_begun (s : Sp) (e : En) : (stepS fs clock s e).2.begun = true := by
  unfold stepS
  repeat' split
  all_goals rfl
theorem walk_snoc (s : Sp) (l : List En) (e : En) : walkS fs clock s (l ++ [e]) = ((walkS fs clock s l).1 ++ (stepS fs clock (walkS fs clock s l).2 e).1, (stepS fs clock (walkS fs clock s l).2 e).2) := by
  induction l generalizing s with
  | nil => simp [walkS]
  | cons x l ih => simp only [List.cons_append, walkS, ih, List.append_assoc]
end
end Go.Proofs.Ythhkpkfpifllkaa

namespace Go.Proofs.Ythhkpkfpifllkaa
open Go.RowKit
set_option linter.unusedVariables false

structure Ov (W1 : World) (wb g rb : Nat) (fv : Value) (fs : List FamD) (clock : Int) (T : World → (Nat → Prop) → List Vd → Prop) (ys : List EntD) (k : Nat) (W : World) : Prop where
  st : ∃ O s, Wk W1 wb g rb fv fs clock T W O s (walkS (mt fs) clock Sp.zero ((ys.take k).map EntD.dat)).1 ∧ s.dat = (walkS (mt fs) clock Sp.zero ((ys.take k).map EntD.dat)).2
theorem walk_len {fs : List (Int × Int)} {clock : Int} (l : List En) : (walkS fs clock Sp.zero l).1.length + (walkS fs clock Sp.zero l).2.wl = l.length ∧ (walkS fs clock Sp.zero l).2.rk (walkS fs clock Sp.zero l).1.length ∧ ((walkS fs clock Sp.zero l).2.waiting = true → (walkS fs clock Sp.zero l).2.begun = true) := by
  have gen : ∀ (l : List En) (s : Sp) (n : Int), s.rk n → (s.waiting = true → s.begun = true) → (walkS fs clock s l).1.length + (walkS fs clock s l).2.wl = l.length + s.wl ∧ (walkS fs clock s l).2.rk (n + (walkS fs clock s l).1.length) ∧ ((walkS fs clock s l).2.waiting = true → (walkS fs clock s l).2.begun = true) := by
    intro l
    induction l with
    | nil => intro s n h1 h2; exact ⟨by simp [walkS], by simpa [walkS] using h1, h2⟩
    | cons e l ih =>
      intro s n h1 h2
      have a1 := step_len (fs := fs) (clock := clock) s e
      have a2 := step_rk (fs := fs) (clock := clock) h1 e
      obtain ⟨b1, b2, b3⟩ := ih (stepS fs clock s e).2 _ a2 (fun _ => step_begun s e)
      refine ⟨?_, ?_, b3⟩
      · simp only [walkS, List.length_append, List.length_cons]
        omega
      · refine rk_mono b2 ?_
        simp only [walkS, List.length_append]
        omega
  have := gen l Sp.zero 0 (by simp [Sp.rk, Sp.zero]) (by simp [Sp.zero])
  simpa [Sp.wl, Sp.zero] using this

set_option maxRecDepth 100000 in
set_option maxHeartbeats 4000000 in
theorem over_any {W : World} {wb g rb B n cap fc : Nat} {a fa : Option Addr} {fs : List FamD} {clock : Int} {T : World → (Nat → Prop) → List Vd → Prop} (ht : Teller g rb T) (hb : WBx W wb (.slice fa fs.length fc) clock (.func (.func g) #[.pointer (some ⟨rb, 0, none⟩)] #[]) spZ) (hf : OwnF W B (.slice fa fs.length fc) fs.length fs) (hl8 : fs.length ≤ 8) (t : T W (fun i => i = rb) []) (hne : wb ≠ rb) (hr : ∃ cs ty, W.heap[rb]? = some (.cells cs ty (0, 0)) ∧ ty ≠ 73 ∧ ty ≠ 45) (hfs : ∀ f ∈ fs, 0 ≤ f.tl ∧ f.tl ≤ 1099511627776)
    (E : Int) (P : List EntD → Prop) (HI : Calls Try.prog 20 #[.slice a n cap, .func (.func 43) #[.pointer (some ⟨wb, 0, none⟩)] #[]] W fun r W' => Below W.heap.size W W' ∧ (E ≠ 0 → r = .returned (.tuple #[.slice none 0 0, .int .i64 E])) ∧ (E = 0 → ∃ (ys : List EntD) (a' : Option Addr) (c' : Nat), P ys ∧ r = .returned (.tuple #[.slice a' ys.length c', .int .i64 0]) ∧ W'.ownsRow W.heap.size 45 7 (.slice a' ys.length c') ys.length (evals ys)))
    (hys : E = 0 → ∀ ys, P ys → (∀ y ∈ ys, Fit fs.length y.dat ∧ ∀ Z, Fr0 W wb rb Z → EntD.Ok Z y) ∧ ys.length ≤ 1353245080300) :
    Calls Try.prog 30 #[.pointer (some ⟨wb, 0, none⟩), .slice a n cap] W fun r W' => r = .returned (.int .i64 E) ∧ (E ≠ 0 → Below W.heap.size W W') ∧ (E = 0 → ∃ (ys : List EntD) (W1 : World) (O : Nat → Prop), P ys ∧ Below W.heap.size W W1 ∧ Wk W1 wb g rb (.slice fa fs.length fc) fs clock T W' O spZ (verdictsS (mt fs) clock (ys.map EntD.dat))) := by
  have HT := Lib.hid ht
  have HHI := Lib.hid HI
  have HYs := Lib.hid hys
  have HFs := Lib.hid hfs
  have rlt : rb < W.heap.size := by obtain ⟨cs, ty, h1, h2, h3⟩ := hr; exact (Array.getElem?_eq_some_iff.1 h1).1
  have HS0 : Hid (∀ Z, Below W.heap.size W Z → Wk Z wb g rb (.slice fa fs.length fc) fs clock T Z (fun i => i = rb) spZ []) := fun Z b => by
    refine Wk.start (T := T) (B := B) (hb.later b) ⟨hf.1, row_same hf.2 (fun g hg => b.block g (hf.2.lt g hg).2)⟩ hl8 (ht.keep t (fun i hi => by rw [hi]; exact b.block rb rlt) b.size) hne ?_
    obtain ⟨cs, ty, h1, h2, h3⟩ := hr
    exact ⟨cs, ty, by rw [b.block rb rlt]; exact h1, h2⟩
  have HRb : Hid (∀ Z, Below W.heap.size W Z → ∀ q cs, Z.heap[q]? = some (.cells cs 45 (0, 0)) → q ≠ wb ∧ q ≠ rb) := fun Z b q cs hq => by
    refine ⟨fun z => ?_, fun z => ?_⟩
    · have := hb.later b
      unfold WBx at this
      rw [← z, hq] at this
      simp at this
    · obtain ⟨cs', ty, h1, h2, h3⟩ := hr
      rw [← b.block rb rlt, ← z, hq] at h1
      simp at h1
      exact h3 h1.2.symm
  have HWb := Lib.hid hb
  obtain ⟨fv, hfv⟩ : ∃ fv, fv = Value.slice fa fs.length fc := ⟨_, rfl⟩
  rw [← hfv] at HS0 ⊢
  clear ht HI hys hfs hb hf hl8 t hr hfv HWb rlt
  go_enter Try.func30, Try.ntmps30
  go_wp2_with fail
  refine Calls.mono HHI.out ?_
  rintro z W1 ⟨b1, hE, hE0⟩
  have HB1 := Lib.hid b1
  clear HHI b1
  by_cases h0 : E = 0
  · obtain ⟨ys, a', c', hP, rfl, row⟩ := hE0 h0
    subst h0
    obtain ⟨hall, hlen⟩ := HYs.out rfl ys hP
    have HPy := Lib.hid hP
    clear hP
    have HAll := Lib.hid hall
    have HRow := Lib.hid row
    obtain ⟨M, hM⟩ : ∃ M, M = ys.length := ⟨_, rfl⟩
    rw [← hM] at hlen ⊢
    have HM := Lib.hid hM
    clear hE hE0 hall row HYs hM
    have HW1 := Lib.hid (HS0.out W1 HB1.out)
    have HRz : Hid (∀ Z, Fr0 W1 wb rb Z → Z.ownsRow W.heap.size 45 7 (.slice a' ys.length c') ys.length (evals ys)) := fun Z hZ => by
      refine row_same HRow.out (fun q hq => ?_)
      have hne2 : q ≠ wb ∧ q ≠ rb := by
        rcases HRow.out.2 with ⟨h1, _⟩ | ⟨q', cap', cur, h1, _, h3, _⟩
        · rw [h1] at hq; cases hq
        · rw [h1] at hq
          cases hq
          exact HRb.out W1 HB1.out _ _ h3
      exact hZ.2 q (HRow.out.lt q hq).2 hne2.1 hne2.2 (fun z => z)
    have HOkz : Hid (∀ y ∈ ys, ∀ Z, Fr0 W1 wb rb Z → EntD.Ok Z y) := fun y hy Z hZ => (HAll.out y hy).2 Z ⟨Nat.le_trans HB1.out.size hZ.1, fun i hi h1 h2 _ => (hZ.2 i (Nat.lt_of_lt_of_le hi HB1.out.size) h1 h2 (fun z => z)).trans (HB1.out.block i hi)⟩
    go_wp2
    go_loopw [21] (fun i wr => ∃ k : Nat, k ≤ M ∧ i = .int .i64 (k : Int) ∧ Hid (Ov W1 wb g rb fv fs clock T ys k wr)) (fun i _ => M - (intOf i).toNat)
    case atStart => exact ⟨0, Nat.zero_le _, rfl, ⟨_, _, HW1.out, rfl⟩⟩
    case round =>
      obtain ⟨k, hk, rfl, HO⟩ := hrel
      have k0 : (0 : Int) ≤ (k : Int) := by omega
      obtain ⟨O, s, hwk, hsd⟩ := HO.out.st
      obtain ⟨l1, l2, l3⟩ := walk_len (fs := mt fs) (clock := clock) ((ys.take k).map EntD.dat)
      rw [← hsd] at l1 l2 l3
      have hrk : s.rank ≤ (walkS (mt fs) clock Sp.zero ((ys.take k).map EntD.dat)).1.length := l2.2
      have hwl : (walkS (mt fs) clock Sp.zero ((ys.take k).map EntD.dat)).1.length ≤ k := by
        rw [List.length_map, List.length_take] at l1
        omega
      by_cases hlt : k < M
      · have hlt2 : (k : Int) < (M : Int) := by omega
        obtain ⟨e, he⟩ : ∃ e, ys[k]? = some e := ⟨ys[k]'(by rw [← HM.out]; exact hlt), List.getElem?_eq_getElem _⟩
        have hme := List.mem_of_getElem? he
        obtain ⟨gq, rfl, lc, cm, hcell⟩ := row_cells3 (HRz.out wr hwk.fr) he
        have hok := HOkz.out e hme wr hwk.fr
        have d0 := hcell 0 e.vr rfl
        have d1 := hcell 1 (.int .i64 e.fam) rfl
        have d2 := hcell 2 e.vq rfl
        have d3 := hcell 3 (.int .i64 e.ts) rfl
        have d4 := hcell 4 (.int .i64 e.seq) rfl
        have d5 := hcell 5 (.int .i64 e.kind) rfl
        have d6 := hcell 6 e.vv rfl
        simp only [Nat.add_zero] at d0
        have A5 := (Below.refl wr.heap.size wr).alloc (Nat.le_refl _) (.cells e.cells 45)
        have HSt := Lib.hid (step_any HT.out (hwk.later HT.out A5) (HOkz.out e hme) (HAll.out e hme).1 (by omega) HFs.out hrk (fun z => l3 z))
        obtain ⟨_, a1, n1, e1, -⟩ := hok.1
        obtain ⟨_, a2, n2, e2, -⟩ := hok.2.1
        obtain ⟨_, a3, n3, e3, -⟩ := hok.2.2
        have hXe : e.cells = #[.slice a1 e.row.length n1, .int .i64 e.fam, .slice a2 e.qual.length n2, .int .i64 e.ts, .int .i64 e.seq, .int .i64 e.kind, .slice a3 e.val.length n3] := by unfold EntD.cells; rw [e1, e2, e3]
        rw [e1] at d0
        rw [e2] at d2
        rw [e3] at d6
        rw [hXe] at HSt
        have HSd := Lib.hid (And.intro hsd he)
        clear hcell hok A5 e1 e2 e3 hXe l1 l2 l3 hrk hwk hme hsd he HO
        go_wp2_with fail
        refine Calls.mono HSt.out ?_
        rintro z2 X2 ⟨rfl, O', s', hwk', hsd'⟩
        have HO2 : Hid (Ov W1 wb g rb fv fs clock T ys (k + 1) X2) := by
          refine ⟨O', s', ?_, ?_⟩
          · rw [List.take_add_one, HSd.out.2, List.map_append]
            show Wk _ _ _ _ _ _ _ _ _ _ _ (walkS (mt fs) clock Sp.zero ((ys.take k).map EntD.dat ++ [e.dat])).1
            rw [walk_snoc, ← HSd.out.1]
            exact hwk'
          · rw [List.take_add_one, HSd.out.2, List.map_append]
            show _ = (walkS (mt fs) clock Sp.zero ((ys.take k).map EntD.dat ++ [e.dat])).2
            rw [walk_snoc, ← HSd.out.1]
            exact hsd'
        clear hwk' hsd' HSt d0 d1 d2 d3 d4 d5 d6
        go_wp2
        go_roundw
        case rel => exact ⟨k + 1, by omega, by go_num, HO2⟩
        case measure => simp only [intOf]; omega
      · have hge : ¬ (k : Int) < (M : Int) := by omega
        have hk2 : k = M := by omega
        have HEn := Lib.hid (end_any HT.out hwk (by omega) HFs.out hrk (fun z => l3 z))
        have hall : ys.take k = ys := by rw [hk2, HM.out, List.take_length]
        rw [hall] at hsd HEn
        have HSd := Lib.hid hsd
        clear hwk l1 l2 l3 hrk hwl hsd hall HO
        go_wp2_with fail
        refine Calls.mono HEn.out ?_
        rintro z2 X2 ⟨rfl, O', hwk'⟩
        rw [HSd.out] at hwk'
        have HF := Lib.hid hwk'
        clear hwk' HEn
        go_wp2
        go_ret
        exact ⟨rfl, ys, HPy.out, W1, HB1.out, O', HF.out⟩
  · have hz := hE h0
    subst hz
    have b0 : (E != 0) = true := by simp [h0]
    have H0 := Lib.hid h0
    clear hE hE0 h0
    go_wp2
    go_ret
    exact ⟨rfl, fun _ => HB1.out, fun z => absurd z H0.out⟩
end Go.Proofs.Ythhkpkfpifllkaa

namespace Go.Proofs.Ythhkpkfpifllkaa
open Go.RowKit
set_option linter.unusedVariables false

def firstBad (chk : EntD → Int) : List EntD → Int
  | [] => 0
  | e :: l => if chk e ≠ 0 then chk e else firstBad chk l
theorem firstBad_zero {chk : EntD → Int} {l : List EntD} (h : ∀ x ∈ l, chk x = 0) : firstBad chk l = 0 := by
  induction l with
  | nil => rfl
  | cons e l ih =>
    rw [firstBad, if_neg (by simpa using h e List.mem_cons_self)]
    exact ih (fun x hx => h x (List.mem_cons_of_mem _ hx))
theorem firstBad_at {chk : EntD → Int} {l r : List EntD} {e : EntD} (h : ∀ x ∈ l, chk x = 0) (he : chk e ≠ 0) : firstBad chk (l ++ e :: r) = chk e := by
  induction l with
  | nil => show firstBad chk (e :: r) = _; rw [firstBad, if_pos he]
  | cons x l ih =>
    show firstBad chk (x :: (l ++ e :: r)) = _
    rw [firstBad, if_neg (by simpa using h x List.mem_cons_self)]
    exact ih (fun y hy => h y (List.mem_cons_of_mem _ hy))
def inOrderE (chk : EntD → Int) (l : List EntD) : Int := if firstBad chk l ≠ 0 then firstBad chk l else if onceS l = none then 31 else 0
theorem seq_of_check {k : Nat} {e : EntD} (h : check3S k e = 0) : 0 ≤ e.seq ∧ e.seq ≤ 17592186044431 := by
  unfold check3S at h
  by_cases hc : checkS e = 0
  · unfold checkS at hc
    repeat' split at hc
    all_goals first | (exfalso; omega) | skip
    omega
  · rw [if_pos hc] at h
    omega

set_option maxRecDepth 100000 in
set_option maxHeartbeats 4000000 in
theorem inOrder_any {W : World} {wb k fc cap : Nat} {a fa : Option Addr} {clock : Int} {tv : Value} {s : SpD} {l : List EntD} (hb : WBx W wb (.slice fa k fc) clock tv s) (hr : RdL3 W a cap l) (hl : l.length ≤ 1353245080300)
    (HSort : ∀ Z a' c' xs, onceS l = some xs → Below W.heap.size W Z → Z.ownsRow W.heap.size 45 7 (.slice a' xs.length c') xs.length (evals xs) → Calls Try.prog 34 #[.slice a' xs.length c', .func (.func 35) #[] #[]] Z fun r Z' => r = .returned (.tuple #[]) ∧ ∃ ys : List EntD, ys.Perm xs ∧ (ys.Pairwise fun x y => compareS x y ≤ 0) ∧ Z'.ownsRow W.heap.size 45 7 (.slice a' xs.length c') xs.length (evals ys) ∧ Z.grownBy Z' (Value.slice a' xs.length c').ownBlock) :
    Calls Try.prog 20 #[.slice a l.length cap, .func (.func 43) #[.pointer (some ⟨wb, 0, none⟩)] #[]] W fun r W' => Below W.heap.size W W' ∧ (inOrderE (check3S k) l ≠ 0 → r = .returned (.tuple #[.slice none 0 0, .int .i64 (inOrderE (check3S k) l)])) ∧ (inOrderE (check3S k) l = 0 → ∃ xs ys a' c', onceS l = some xs ∧ ys.Perm xs ∧ (ys.Pairwise fun x y => compareS x y ≤ 0) ∧ r = .returned (.tuple #[.slice a' ys.length c', .int .i64 0]) ∧ W'.ownsRow W.heap.size 45 7 (.slice a' ys.length c') ys.length (evals ys)) := by
  obtain ⟨R, hR⟩ : ∃ R, R = inOrderE (check3S k) l := ⟨_, rfl⟩
  obtain ⟨N, hN⟩ : ∃ N, N = l.length := ⟨_, rfl⟩
  rw [← hN] at hl ⊢
  rw [← hR]
  have HRR := Lib.hid hR
  have HN := Lib.hid hN
  have HB := Lib.hid hb
  have HRd := Lib.hid hr
  have HSo := Lib.hid HSort
  clear hR hN hb hr HSort
  go_enter Try.func20, Try.ntmps20
  go_wp2
  go_loopw [13] (fun i wr => ∃ t : Nat, t ≤ N ∧ i = .int .i64 (t : Int) ∧ Hid (Below W.heap.size W wr) ∧ Hid (∀ x ∈ l.take t, check3S k x = 0)) (fun i _ => N - (intOf i).toNat)
  case atStart => exact ⟨0, Nat.zero_le _, rfl, Below.refl _ _, by unfold Hid; simp⟩
  case round =>
    obtain ⟨t, ht, rfl, HBw, HAll⟩ := hrel
    have t0 : (0 : Int) ≤ (t : Int) := by omega
    by_cases hlt : t < N
    · have hlt2 : (t : Int) < (N : Int) := by omega
      obtain ⟨e, he⟩ : ∃ e, l[t]? = some e := ⟨l[t]'(by rw [← HN.out]; exact hlt), List.getElem?_eq_getElem _⟩
      have hrd := HRd.out.later HBw.out
      have hok := hrd.ok e (List.mem_of_getElem? he)
      rcases hrd.at_ with h0 | ⟨b, off, rfl, hc⟩
      · rw [h0] at he; simp at he
      have d0 := hc t e he 0 e.vr rfl
      have d1 := hc t e he 1 (.int .i64 e.fam) rfl
      have d2 := hc t e he 2 e.vq rfl
      have d3 := hc t e he 3 (.int .i64 e.ts) rfl
      have d4 := hc t e he 4 (.int .i64 e.seq) rfl
      have d5 := hc t e he 5 (.int .i64 e.kind) rfl
      have d6 := hc t e he 6 e.vv rfl
      simp only [Nat.add_zero] at d0
      have A5 := (Below.refl wr.heap.size wr).alloc (Nat.le_refl _) (.cells e.cells 45)
      have B5 := HBw.out.trans (A5.mono HBw.out.size)
      have HCk := Lib.hid (check3_any ((HB.out.later HBw.out).later A5) (hok.later A5))
      obtain ⟨_, a1, n1, e1, -⟩ := hok.1
      obtain ⟨_, a2, n2, e2, -⟩ := hok.2.1
      obtain ⟨_, a3, n3, e3, -⟩ := hok.2.2
      have hXe : e.cells = #[.slice a1 e.row.length n1, .int .i64 e.fam, .slice a2 e.qual.length n2, .int .i64 e.ts, .int .i64 e.seq, .int .i64 e.kind, .slice a3 e.val.length n3] := by unfold EntD.cells; rw [e1, e2, e3]
      rw [e1] at d0
      rw [e2] at d2
      rw [e3] at d6
      rw [hXe] at HCk B5
      have HB5 := Lib.hid B5
      have HE := Lib.hid he
      obtain ⟨c, hc2⟩ : ∃ c, c = check3S k e := ⟨_, rfl⟩
      rw [← hc2] at HCk
      have HC2 := Lib.hid hc2
      clear hrd hok hc A5 B5 e1 e2 e3 hXe he hc2
      go_wp2_with fail
      refine Calls.mono HCk.out ?_
      rintro z X2 ⟨rfl, b2⟩
      have HB2 := Lib.hid (HB5.out.trans (b2.mono HB5.out.size))
      clear b2 d0 d1 d2 d3 d4 d5 d6 HCk HB5
      by_cases h0 : c = 0
      · have HAll2 : Hid (∀ x ∈ l.take (t + 1), check3S k x = 0) := by
          unfold Hid
          rw [List.take_add_one, HE.out]
          intro x hx
          rcases List.mem_append.1 hx with q | q
          · exact HAll.out x q
          · simp at q
            rw [q, ← HC2.out]; exact h0
        subst h0
        go_wp2
        go_roundw
        case rel => exact ⟨t + 1, by omega, by go_num, HB2, HAll2⟩
        case measure => simp only [intOf]; omega
      · have q : Hid (R = c ∧ R ≠ 0) := by
          have hd : l = l.take t ++ e :: l.drop (t + 1) := by
            have h1 := (List.getElem?_eq_some_iff.1 HE.out)
            rw [← h1.2, ← List.drop_eq_getElem_cons, List.take_append_drop]
          have hfb : firstBad (check3S k) l = c := by
            rw [hd, HC2.out]
            exact firstBad_at HAll.out (by rw [← HC2.out]; exact h0)
          have : R = c := by rw [HRR.out, inOrderE, if_pos (by rw [hfb]; exact h0), hfb]
          exact ⟨this, by rw [this]; exact h0⟩
        have b0 : (c != 0) = true := by simp [h0]
        clear h0
        go_wp2
        go_ret2
        exact ⟨HB2.out, fun _ => by rw [q.out.1]; rfl, fun z => absurd z q.out.2⟩
    · have hge : ¬ (t : Int) < (N : Int) := by omega
      have e : t = N := by omega
      have hall : ∀ x ∈ l, check3S k x = 0 := by have := HAll.out; rwa [e, HN.out, List.take_length] at this
      have HOn := Lib.hid (once_any (HRd.out.later HBw.out) (by rw [← HN.out]; omega) (fun x hx => seq_of_check (hall x hx)))
      have hRv : R = if onceS l = none then 31 else 0 := by rw [HRR.out, inOrderE, if_neg (by rw [firstBad_zero hall]; simp)]
      rw [← HN.out] at HOn
      have HRv := Lib.hid hRv
      clear hRv hall e
      go_wp2_with fail
      refine Calls.mono HOn.out ?_
      rintro z W2 ⟨b2, hnone, hsome⟩
      have HB2 := Lib.hid (HBw.out.trans (b2.mono HBw.out.size))
      clear HOn b2
      cases ho : onceS l with
      | none =>
        have hz := hnone ho
        subst hz
        have q : Hid (R = 31) := by unfold Hid; rw [HRv.out, if_pos ho]
        clear hnone hsome ho
        go_wp2
        go_ret2
        exact ⟨HB2.out, fun _ => by rw [q.out]; rfl, fun z => by have := q.out; omega⟩
      | some xs =>
        obtain ⟨a', c', hz, hrow⟩ := hsome xs ho
        subst hz
        have q : Hid (R = 0) := by unfold Hid; rw [HRv.out, if_neg (by rw [ho]; simp)]
        have hrow2 := row_low hrow HBw.out.size
        have HSc := Lib.hid (HSo.out W2 a' c' xs ho HB2.out hrow2)
        have HRw := Lib.hid hrow2
        have HOo := Lib.hid ho
        clear hnone hsome ho hrow hrow2
        go_wp2_with fail
        refine Calls.mono HSc.out ?_
        rintro z W3 ⟨rfl, ys, hp, hsrt, hrow3, hgr⟩
        have HF := Lib.hid (And.intro hp (And.intro hsrt (And.intro hrow3 hgr)))
        clear hp hsrt hrow3 hgr HSc
        go_wp2
        go_ret2
        obtain ⟨hp, hsrt, hrow3, hgr⟩ := HF.out
        have el := hp.length_eq
        refine ⟨HB2.out.grown hgr HB2.out.size (fun g hg => (HRw.out.lt g hg).1), fun z => absurd q.out z, fun _ => ⟨xs, ys, a', c', HOo.out, hp, hsrt, by rw [el]; rfl, by rw [el]; exact hrow3⟩⟩
end Go.Proofs.Ythhkpkfpifllkaa

namespace Go.Proofs.Ythhkpkfpifllkaa
open Go.RowKit
set_option linter.unusedVariables false

def SortP : Prop := ∀ (B : Nat) (Z : World) (a' : Option Addr) (c' : Nat) (xs : List EntD), (∀ x ∈ xs, EntD.Ok Z x) → xs.length ≤ 1353245080300 → B ≤ Z.heap.size → Z.ownsRow B 45 7 (.slice a' xs.length c') xs.length (evals xs) → Calls Try.prog 34 #[.slice a' xs.length c', .func (.func 35) #[] #[]] Z fun r Z' => r = .returned (.tuple #[]) ∧ ∃ ys : List EntD, ys.Perm xs ∧ (ys.Pairwise fun x y => compareS x y ≤ 0) ∧ Z'.ownsRow B 45 7 (.slice a' xs.length c') xs.length (evals ys) ∧ Z.grownBy Z' (Value.slice a' xs.length c').ownBlock
theorem Rd.heap {W Z : World} {x : Value} {bs : List Nat} (r : Rd W x bs) (h : ∀ i, i < W.heap.size → Z.heap[i]? = W.heap[i]?) : Rd Z x bs := by
  obtain ⟨h1, a, cap, rfl, h3, h4, h5, h6, h7⟩ := r
  refine ⟨h1, a, cap, rfl, h3, h4, h5, h6, ?_⟩
  rcases h7 with h7 | ⟨b, off, rfl, hc⟩
  · exact .inl h7
  · refine .inr ⟨b, off, rfl, fun i hi => ?_⟩
    have c := hc i hi
    have lt := World.block_lt_of_cell? W _ c
    simp only [World.cell?, h b lt] at c ⊢
    exact c
theorem EntD.heap {W Z : World} {e : EntD} (r : EntD.Ok W e) (h : ∀ i, i < W.heap.size → Z.heap[i]? = W.heap[i]?) : EntD.Ok Z e := ⟨r.1.heap h, r.2.1.heap h, r.2.2.heap h⟩
theorem once_len (l : List EntD) : ∀ (acc xs : List EntD), l.foldl (fun o e => o.bind fun xs => addO xs e) (some acc) = some xs → xs.length ≤ acc.length + l.length := by
  induction l with
  | nil => intro acc xs h; cases h; simp
  | cons e r ih =>
    intro acc xs h
    have h2 : r.foldl (fun o e => o.bind fun xs => addO xs e) (addO acc e) = some xs := h
    cases ha : addO acc e with
    | none => rw [ha, once_none] at h2; cases h2
    | some ys =>
      rw [ha] at h2
      have := ih ys xs h2
      have hy : ys.length ≤ acc.length + 1 := by
        unfold addO at ha
        split at ha
        · cases ha; simp
        · split at ha
          · cases ha; omega
          · cases ha
      rw [List.length_cons]
      omega
theorem onceS_len {l xs : List EntD} (h : onceS l = some xs) : xs.length ≤ l.length := by simpa using once_len l [] xs h
theorem firstBad_all {chk : EntD → Int} {l : List EntD} (h : firstBad chk l = 0) : ∀ x ∈ l, chk x = 0 := by
  induction l with
  | nil => simp
  | cons e l ih =>
    rw [firstBad] at h
    by_cases he : chk e = 0
    · rw [if_neg (by simpa using he)] at h
      intro x hx
      rcases List.mem_cons.1 hx with rfl | q
      · exact he
      · exact ih h x q
    · rw [if_pos he] at h
      exact absurd h he
theorem inOrder_ok {chk : EntD → Int} {l : List EntD} (h : inOrderE chk l = 0) : (∀ x ∈ l, chk x = 0) ∧ ∃ xs, onceS l = some xs := by
  unfold inOrderE at h
  by_cases hb : firstBad chk l = 0
  · rw [if_neg (by simpa using hb)] at h
    cases ho : onceS l with
    | none => rw [if_pos ho] at h; cases h
    | some xs => exact ⟨firstBad_all hb, xs, rfl⟩
  · rw [if_pos hb] at h
    exact absurd h hb
theorem over_all (SP : SortP) {W W0 : World} {wb g rb B cap fc : Nat} {a fa : Option Addr} {fs : List FamD} {clock : Int} {T : World → (Nat → Prop) → List Vd → Prop} {l : List EntD} (ht : Teller g rb T) (hb : WBx W wb (.slice fa fs.length fc) clock (.func (.func g) #[.pointer (some ⟨rb, 0, none⟩)] #[]) spZ) (hf : OwnF W B (.slice fa fs.length fc) fs.length fs) (hl8 : fs.length ≤ 8) (t : T W (fun i => i = rb) []) (hne : wb ≠ rb) (hr : ∃ cs ty, W.heap[rb]? = some (.cells cs ty (0, 0)) ∧ ty ≠ 73 ∧ ty ≠ 45) (hfs : ∀ f ∈ fs, 0 ≤ f.tl ∧ f.tl ≤ 1099511627776)
    (h0 : RdL3 W0 a cap l) (hB : Below W0.heap.size W0 W) (hw0 : W0.heap.size ≤ wb) (hr0 : W0.heap.size ≤ rb) (hl : l.length ≤ 1353245080300) :
    Calls Try.prog 30 #[.pointer (some ⟨wb, 0, none⟩), .slice a l.length cap] W fun r W' => r = .returned (.int .i64 (inOrderE (check3S fs.length) l)) ∧ (inOrderE (check3S fs.length) l ≠ 0 → Below W.heap.size W W') ∧ (inOrderE (check3S fs.length) l = 0 → ∃ (xs ys : List EntD) (W1 : World) (O : Nat → Prop), onceS l = some xs ∧ ys.Perm xs ∧ (ys.Pairwise fun x y => compareS x y ≤ 0) ∧ Below W.heap.size W W1 ∧ Wk W1 wb g rb (.slice fa fs.length fc) fs clock T W' O spZ (verdictsS (mt fs) clock (ys.map EntD.dat))) := by
  have hB2 : ∀ {Z : World}, Below W.heap.size W Z → Below W0.heap.size W0 Z := fun b => hB.trans (b.mono hB.size)
  have HI := inOrder_any (k := fs.length) hb (h0.later hB) hl (fun Z a' c' xs ho b row => SP W.heap.size Z a' c' xs (fun x hx => (h0.ok x (onceS_mem ho x hx)).later (hB2 b)) (Nat.le_trans (onceS_len ho) hl) b.size row)
  refine Calls.mono (over_any ht hb hf hl8 t hne hr hfs (inOrderE (check3S fs.length) l) (fun ys => ∃ xs, onceS l = some xs ∧ ys.Perm xs ∧ ys.Pairwise fun x y => compareS x y ≤ 0) (Calls.mono HI ?_) ?_) ?_
  · rintro r W' ⟨h1, h2, h3⟩
    refine ⟨h1, h2, fun z => ?_⟩
    obtain ⟨xs, ys, a', c', k1, k2, k3, k4, k5⟩ := h3 z
    exact ⟨ys, a', c', ⟨xs, k1, k2, k3⟩, k4, k5⟩
  · rintro z ys ⟨xs, k1, k2, k3⟩
    obtain ⟨hall, -⟩ := inOrder_ok z
    have hmem : ∀ y ∈ ys, y ∈ l := fun y hy => onceS_mem k1 y (k2.mem_iff.1 hy)
    refine ⟨fun y hy => ⟨fit_of_check (hall y (hmem y hy)), fun Z hZ => EntD.heap (h0.ok y (hmem y hy)) (fun i hi => ?_)⟩, by rw [k2.length_eq]; exact Nat.le_trans (onceS_len k1) hl⟩
    rw [hZ.2 i (Nat.lt_of_lt_of_le hi hB.size) (by omega) (by omega) (fun z => z)]
    exact hB.block i hi
  · rintro r W' ⟨h1, h2, h3⟩
    refine ⟨h1, h2, fun z => ?_⟩
    obtain ⟨ys, W1, O, ⟨xs, k1, k2, k3⟩, k4, k5⟩ := h3 z
    exact ⟨xs, ys, W1, O, k1, k2, k3, k4, k5⟩
end Go.Proofs.Ythhkpkfpifllkaa

namespace Go.Proofs.Ythhkpkfpifllkaa
open Go.RowKit
set_option linter.unusedVariables false

theorem flat_evals {Z : World} (d : Array (EA Z)) : Go.Sort.flatK (encA Z) 7 d = (evals (d.toList.map Subtype.val)).toArray := by
  refine Go.Sort.ext_get! (by simp [evals_len]) fun t ht => ?_
  rw [Go.Sort.size_flatK] at ht
  rw [Go.Sort.get_flatK _ _ _ _ ht]
  have h1 : t / 7 < d.size := by omega
  have h5 : t % 7 < 7 := Nat.mod_lt _ (by omega)
  have e1 : (d.toList.map Subtype.val)[t / 7]? = some (d[t / 7]!).1 := by
    rw [List.getElem?_map, Array.getElem?_toList, Array.getElem?_eq_getElem h1, getElem!_pos d _ h1]
    rfl
  have e2 : (d[t / 7]!).1.cells.toList[t % 7]? = some ((encA Z d[t / 7]!)[t % 7]!) := by
    show (encA Z d[t / 7]!)[t % 7]? = _
    rw [List.getElem!_eq_getElem?_getD, List.getElem?_eq_getElem (by exact h5)]
    rfl
  have := evals_at e1 e2
  rw [show t / 7 * 7 + t % 7 = t by omega] at this
  have hl := (List.getElem?_eq_some_iff.1 this)
  rw [getElem!_pos (evals (d.toList.map Subtype.val)).toArray t (by rw [List.size_toArray]; exact hl.1)]
  exact hl.2.symm
theorem heap_sort {Z : World} {g n : Nat} {d' : Array (EA Z)} {os : Array Obj} {cur : Array Value} {ty : TypeId} {fr : Nat × Nat} (hg : Z.heap[g]? = some (.cells cur ty fr)) : (sortWorldK (encA Z) 7 Z g 0 n d' os).heap[g]? = some (.cells (Go.Sort.putCells id 0 (Go.Sort.flatK (encA Z) 7 d') cur) ty fr) := by
  have lt : g < Z.heap.size := (Array.getElem?_eq_some_iff.1 hg).1
  unfold sortWorldK Go.Sort.putRowK Go.Sort.putRow
  rw [Go.Sort.heap_grow_old _ _ (by show g < (Z.heap.modify g _).size; rw [Array.size_modify]; exact lt)]
  show (Z.heap.modify g _)[g]? = _
  rw [Array.getElem?_modify, if_pos rfl, hg]
  rfl
theorem heap_sort_ne {Z : World} {g n k : Nat} {d' : Array (EA Z)} {os : Array Obj} (hk : k < Z.heap.size) (hne : k ≠ g) : (sortWorldK (encA Z) 7 Z g 0 n d' os).heap[k]? = Z.heap[k]? := by
  unfold sortWorldK Go.Sort.putRowK Go.Sort.putRow
  rw [Go.Sort.heap_grow_old _ _ (by show k < (Z.heap.modify g _).size; rw [Array.size_modify]; exact hk)]
  show (Z.heap.modify g _)[k]? = _
  rw [Array.getElem?_modify, if_neg (by omega)]
theorem putCells_take {F cur : Array Value} (h : F.size ≤ cur.size) : (Go.Sort.putCells id 0 F cur).toList.take F.size = F.toList := by
  apply List.ext_getElem?
  intro i
  by_cases hi : i < F.size
  · rw [List.getElem?_take_of_lt hi, Array.getElem?_toList, Array.getElem?_toList]
    unfold Go.Sort.putCells
    rw [Array.getElem?_mapIdx, Array.getElem?_eq_getElem (by omega : i < cur.size), Option.map_some, if_pos ⟨by omega, by omega⟩, Nat.sub_zero, Array.getElem?_eq_getElem hi, getElem!_pos F i hi]
    rfl
  · rw [List.getElem?_eq_none (by simp; omega), List.getElem?_eq_none (by simp; omega)]
def toA (Z : World) (xs : List EntD) (h : ∀ x ∈ xs, EntD.Ok Z x) : Array (EA Z) := (xs.attach.map fun x => (⟨x.1, h x.1 x.2⟩ : EA Z)).toArray
theorem toA_val {Z : World} {xs : List EntD} (h : ∀ x ∈ xs, EntD.Ok Z x) : (toA Z xs h).toList.map Subtype.val = xs := by
  unfold toA
  rw [List.map_map]
  exact List.attach_map_subtype_val xs
theorem toA_size {Z : World} {xs : List EntD} (h : ∀ x ∈ xs, EntD.Ok Z x) : (toA Z xs h).size = xs.length := by simp [toA]
theorem holdsA {Z : World} {g : Nat} {xs : List EntD} {cur : Array Value} {ty : TypeId} (h : ∀ x ∈ xs, EntD.Ok Z x) (hg : Z.heap[g]? = some (.cells cur ty (0, 0))) (hc : cur.toList.take (xs.length * 7) = evals xs) : Go.Sort.HoldsK (encA Z) 7 Z g 0 (toA Z xs h) := by
  unfold Go.Sort.HoldsK
  rw [flat_evals, toA_val]
  intro j hj
  rw [List.size_toArray, evals_len] at hj
  refine ⟨?_, ?_⟩
  · have e : cur.toList[j]? = (evals xs)[j]? := by rw [← hc, List.getElem?_take_of_lt hj]
    have hl : j < (evals xs).length := by rw [evals_len]; exact hj
    rw [List.getElem?_eq_getElem hl, Array.getElem?_toList] at e
    rw [Nat.zero_add, getElem!_pos _ j (by rw [List.size_toArray]; exact hl)]
    simp [World.cell?, hg, e]
  · simp [World.frozen?, hg]
theorem sort_holds (hnone : ∀ (c' : Nat) (Z : World), Calls Try.prog 34 #[.slice none 0 c', .func (.func 35) #[] #[]] Z fun r Z' => r = .returned (.tuple #[]) ∧ Z' = Z) : SortP := by
  intro B Z a' c' xs hok hlen hB hrow
  rcases hrow.2 with ⟨hv, h0⟩ | ⟨g, cap, cur, hv, hBg, hg, hnc, hcm, hcs, htk⟩
  · have hx : xs = [] := List.eq_nil_of_length_eq_zero h0
    subst hx
    simp only [Value.slice.injEq, List.length_nil] at hv
    obtain ⟨rfl, _, rfl⟩ := hv
    refine Calls.mono (hnone 0 Z) ?_
    rintro r Z' ⟨rfl, rfl⟩
    exact ⟨rfl, [], List.Perm.nil, List.Pairwise.nil, hrow, ⟨rfl, rfl, rfl, Nat.le_refl _, fun _ _ _ => rfl⟩⟩
  · simp only [Value.slice.injEq] at hv
    obtain ⟨rfl, _, rfl⟩ := hv
    have hH := holdsA hok hg htk
    have hsz := toA_size hok
    have lt : g < Z.heap.size := (Array.getElem?_eq_some_iff.1 hg).1
    have key := AnyQ.slices_SortFunc (P := Try.prog) (ρ := laidSort) laysSort 7 (fun w => Try.isAgg45 w) (fun w => Try.sizeOf45 w) (encA Z) (fun x => rfl) (encA_one Z) (cfA Z) (swo_cfA Z) 35 #[] g 0 c' (toA Z xs hok) Z (enters_of Try.func35 (by kernel_rfl) rfl) (cmp_lays hH) hH lt (by rw [hsz]; omega)
    rw [hsz] at key
    refine Calls.mono key ?_
    rintro r Z' ⟨rfl, d', n, os, hp, hso, rfl⟩
    obtain ⟨p1, p2, p3⟩ := hp
    have hd' : d'.size = xs.length := by rw [p1, hsz]
    have x1 : d'.extract 0 xs.length = d' := by rw [← hd']; exact Array.extract_size
    have x2 : (toA Z xs hok).extract 0 xs.length = toA Z xs hok := by rw [← hsz]; exact Array.extract_size
    rw [x1, x2] at p3
    refine ⟨rfl, d'.toList.map Subtype.val, ?_, ?_, ?_, ?_⟩
    · have := p3.map Subtype.val
      rwa [toA_val] at this
    · rw [List.pairwise_map, List.pairwise_iff_getElem]
      intro i j hi hj hij
      rw [Array.length_toList] at hi hj
      have := hso i j (Nat.zero_le _) hij (by omega)
      rw [getElem!_pos d' i hi, getElem!_pos d' j hj] at this
      have h1 : ¬ compareS d'[j].1 d'[i].1 < 0 := of_decide_eq_false this
      have h2 := compareS_swap d'[j].1 d'[i].1
      show compareS d'.toList[i].1 d'.toList[j].1 ≤ 0
      rw [Array.getElem_toList, Array.getElem_toList]
      omega
    · refine ⟨by rw [evals_len, List.length_map, Array.length_toList, hd'], .inr ⟨g, c', _, rfl, hBg, heap_sort hg, hnc, hcm, ?_, ?_⟩⟩
      · unfold Go.Sort.putCells
        rw [Array.size_mapIdx, hcs]
      · have hF : (Go.Sort.flatK (encA Z) 7 d').size = xs.length * 7 := by rw [Go.Sort.size_flatK, hd']
        rw [← hF, putCells_take (by rw [hF, hcs]; exact Nat.mul_le_mul_right 7 hnc), flat_evals]
    · refine ⟨rfl, rfl, rfl, ?_, fun k hk hne => heap_sort_ne hk (fun e => hne (by rw [e]; rfl))⟩
      unfold sortWorldK
      rw [Go.Sort.size_grow]
      show Z.heap.size ≤ (Go.Sort.putRowK _ _ _ _ _ _).heap.size + _
      unfold Go.Sort.putRowK
      rw [Go.Sort.size_putRow]
      exact Nat.le_add_right _ _
end Go.Proofs.Ythhkpkfpifllkaa

namespace Go.Proofs.Ythhkpkfpifllkaa
open Go.RowKit
set_option linter.unusedVariables false

set_option maxRecDepth 100000 in
set_option maxHeartbeats 4000000 in
theorem fover_any (SP : SortP) {W W0 : World} {wb rb B cap fc : Nat} {a fa : Option Addr} {fs : List FamD} {clock low : Int} {major : Bool} {l : List EntD} (hs : SBx W rb (.pointer (some ⟨wb, 0, none⟩)) (.slice none 0 0) (fBc major low ⟨0, 0, 0, 0, 0⟩) 70) (hb : WBx W wb (.slice fa fs.length fc) clock (.func (.func 40) #[.pointer (some ⟨rb, 0, none⟩)] #[]) spZ) (hf : OwnF W B (.slice fa fs.length fc) fs.length fs) (hl8 : fs.length ≤ 8) (hne : wb ≠ rb) (hfs : ∀ f ∈ fs, 0 ≤ f.tl ∧ f.tl ≤ 1099511627776)
    (h0 : RdL3 W0 a cap l) (hB : Below W0.heap.size W0 W) (hw0 : W0.heap.size ≤ wb) (hr0 : W0.heap.size ≤ rb) (hl : l.length ≤ 1353245080300) :
    Calls Try.prog 24 #[.pointer (some ⟨rb, 0, none⟩), .slice a l.length cap] W fun r W' => Below W0.heap.size W0 W' ∧ (inOrderE (check3S fs.length) l ≠ 0 → r = .returned (.tuple #[.slice none 0 0, .int .i64 (inOrderE (check3S fs.length) l)])) ∧ (inOrderE (check3S fs.length) l = 0 → ∃ (xs ys zs : List EntD) (v : Value) (O : Nat → Prop), onceS l = some xs ∧ ys.Perm xs ∧ (ys.Pairwise fun x y => compareS x y ≤ 0) ∧ r = .returned (.tuple #[v, .int .i64 0]) ∧ Rw W' W0.heap.size v zs O ∧ zs.map EntD.dat = outS major low (verdictsS (mt fs) clock (ys.map EntD.dat))) := by
  have HO := Lib.hid (over_all SP (T := TF [] rb W0.heap.size (.pointer (some ⟨wb, 0, none⟩)) major low) (filter_teller [] rb W0.heap.size (.pointer (some ⟨wb, 0, none⟩)) major low) hb hf hl8 (TF.start hs hB.size) hne ⟨_, _, hs, by decide, by decide⟩ hfs h0 hB hw0 hr0 hl)
  obtain ⟨E, hE⟩ : ∃ E, E = inOrderE (check3S fs.length) l := ⟨_, rfl⟩
  rw [← hE] at HO ⊢
  have HSb := Lib.hid hs
  have HB := Lib.hid hB
  have c0 := hs.c00
  obtain ⟨n, hn⟩ : ∃ n, n = l.length := ⟨_, rfl⟩
  rw [← hn] at HO ⊢
  have HW := Lib.hid (And.intro hw0 hr0)
  clear hs hb hf hl8 hne hfs h0 hB hl hE hn hw0 hr0
  go_enter Try.func24, Try.ntmps24
  go_wp2_with fail
  refine Calls.mono HO.out ?_
  rintro z W1 ⟨rfl, h1, h2⟩
  clear HO c0
  by_cases hz : E = 0
  · obtain ⟨xs, ys, W2, O, k1, k2, k3, k4, k5⟩ := h2 hz
    obtain ⟨zs, ov, Or, sb, rw1, hno, hsub, hx⟩ := k5.tell.st
    obtain ⟨av, cv, rfl⟩ := rows_form3 rw1.row
    have HH := Lib.hid (handOut_any sb)
    have HK := Lib.hid (And.intro k1 (And.intro k2 (And.intro k3 (And.intro k4 (And.intro k5 (And.intro rw1 (And.intro hno (And.intro hsub hx))))))))
    subst hz
    clear h1 h2 k1 k2 k3 k4 k5 sb rw1 hno hsub hx
    go_wp2_with fail
    refine Calls.mono HH.out ?_
    rintro z2 X2 ⟨rfl, sb2, gr2⟩
    have HG := Lib.hid gr2
    clear sb2 gr2 HH
    go_wp2
    go_ret2
    obtain ⟨k1, k2, k3, k4, k5, rw1, hno, hsub, hx⟩ := HK.out
    obtain ⟨hw0, hr0⟩ := HW.out
    have gr := HG.out
    have b := HB.out
    have szW : W0.heap.size ≤ W2.heap.size := Nat.le_trans b.size k4.size
    refine ⟨⟨gr.os.trans (k5.os.trans (k4.os.trans b.os)), gr.tape.trans (k5.tape.trans (k4.tape.trans b.tape)), gr.output.trans (k5.output.trans (k4.output.trans b.output)), Nat.le_trans szW (Nat.le_trans k5.fr.1 gr.size), fun i hi => ?_⟩, xs, k1, ys, k2, k3, zs, .slice av zs.length cv, rfl, ⟨Or, rw1.keep (fun i hi => gr.block i (k5.tell.lt i (hsub i hi)) (fun z => by cases z; exact hno hi))⟩, hx⟩
    rw [gr.block i (Nat.lt_of_lt_of_le hi (Nat.le_trans szW k5.fr.1)) (fun z => by cases z; omega), k5.fr.2 i (Nat.lt_of_lt_of_le hi szW) (by omega) (by omega) (fun z => z), k4.block i (Nat.lt_of_lt_of_le hi b.size)]
    exact b.block i hi
  · have b1 := h1 hz
    have HH := Lib.hid (handOut_any (HSb.out.later b1))
    have HB1 := Lib.hid b1
    have HZ := Lib.hid hz
    clear h1 h2 b1 hz
    go_wp2_with fail
    refine Calls.mono HH.out ?_
    rintro z2 X2 ⟨rfl, sb2, gr2⟩
    have HG := Lib.hid gr2
    clear sb2 gr2 HH
    go_wp2
    go_ret2
    obtain ⟨hw0, hr0⟩ := HW.out
    have gr := HG.out
    have b := HB.out
    have b1 := HB1.out
    refine ⟨⟨gr.os.trans (b1.os.trans b.os), gr.tape.trans (b1.tape.trans b.tape), gr.output.trans (b1.output.trans b.output), Nat.le_trans b.size (Nat.le_trans b1.size gr.size), fun i hi => ?_⟩, fun _ => rfl, fun z => absurd z HZ.out⟩
    rw [gr.block i (Nat.lt_of_lt_of_le hi (Nat.le_trans b.size b1.size)) (fun z => by cases z; omega), b1.block i (Nat.lt_of_lt_of_le hi b.size)]
    exact b.block i hi
def squashE (C : Nat) (fs : List FamD) (clock low : Int) (l : List EntD) : Int := if boundsS C [clock, low] ≠ 0 then boundsS C [clock, low] else inOrderE (check3S fs.length) l

set_option maxRecDepth 100000 in
set_option maxHeartbeats 4000000 in
theorem squash_any (SP : SortP) {W : World} {cap fc : Nat} {a fa : Option Addr} {fs : List FamD} {l : List EntD} (hr : RdF W (.slice fa fs.length fc) fs) (hn : fa = none → fc = 0) (C : Nat) (hC : (C = 0 ↔ SchemaOk fs) ∧ (C = 0 ∨ C = 28)) (clock low : Int) (major : Bool) (h0 : RdL3 W a cap l) (hl : l.length ≤ 1353245080300) :
    Calls Try.prog 9 #[.agg #[.slice fa fs.length fc], .int .i64 clock, .bool major, .int .i64 low, .slice a l.length cap] W fun r W' => Below W.heap.size W W' ∧ (squashE C fs clock low l ≠ 0 → r = .returned (.tuple #[.slice none 0 0, .int .i64 (squashE C fs clock low l)])) ∧ (squashE C fs clock low l = 0 → ∃ (xs ys zs : List EntD) (v : Value) (O : Nat → Prop), onceS l = some xs ∧ ys.Perm xs ∧ (ys.Pairwise fun x y => compareS x y ≤ 0) ∧ r = .returned (.tuple #[v, .int .i64 0]) ∧ Rw W' W.heap.size v zs O ∧ zs.map EntD.dat = outS major low (verdictsS (mt fs) clock (ys.map EntD.dat))) := by
  have HF : Hid (∀ Z, Below W.heap.size W Z → Calls Try.prog 25 #[.agg #[.slice fa fs.length fc], .int .i64 clock, .bool major, .int .i64 low] Z _) := fun Z b => newFilter_any (hr.later b) hn C hC clock low major
  obtain ⟨E, hE⟩ : ∃ E, E = squashE C fs clock low l := ⟨_, rfl⟩
  obtain ⟨R, hR⟩ : ∃ R, R = boundsS C [clock, low] := ⟨_, rfl⟩
  have HE : Hid (E = if R ≠ 0 then R else inOrderE (check3S fs.length) l) := by unfold Hid; rw [hE, hR]; rfl
  rw [← hE]
  have HOk : Hid (R = 0 → fs.length ≤ 8 ∧ ∀ f ∈ fs, 0 ≤ f.tl ∧ f.tl ≤ 1099511627776) := fun z => by
    have hs := hC.1.1 (bounds_ok (hR.symm.trans z)).1
    refine ⟨hs.1.2, fun f hf => ?_⟩
    obtain ⟨i, hi⟩ := List.getElem?_of_mem hf
    exact (hs.2 i f hi).1.2.2
  simp only [← hR] at HF
  have HA := Lib.hid ((Below.refl W.heap.size W).alloc (Nat.le_refl _) (.cells #[.slice fa fs.length fc] 24))
  have H0 := Lib.hid h0
  have HL := Lib.hid hl
  obtain ⟨n, hn2⟩ : ∃ n, n = l.length := ⟨_, rfl⟩
  rw [← hn2]
  have HN := Lib.hid hn2
  obtain ⟨k, hk⟩ : ∃ k, k = fs.length := ⟨_, rfl⟩
  rw [← hk] at HF HA ⊢
  have HK := Lib.hid hk
  clear hr hn hC h0 hl hE hR hn2 hk
  go_enter Try.func9, Try.ntmps9
  go_wp2_with fail
  refine Calls.mono (HF.out _ HA.out) ?_
  rintro z W1 ⟨b1, h1, h2⟩
  have B1 := HA.out.trans (b1.mono HA.out.size)
  have HB1 := Lib.hid B1
  by_cases hz : R = 0
  · obtain ⟨fb, wb, a', c', rfl, hfb, hwb, hne, sb, wx, of⟩ := h2 hz
    obtain ⟨h8, hfs⟩ := HOk.out hz
    have l1 : W.heap.size ≤ (W.alloc (.cells #[.slice fa k fc] 24)).heap.size := HA.out.size
    have HEq : Hid (E = inOrderE (check3S fs.length) l) := by unfold Hid; rw [HE.out, if_neg (by simpa using hz)]
    have HV := Lib.hid (fover_any SP sb (by rw [HK.out] at wx; exact wx) (by rw [HK.out] at of; exact of) h8 (Ne.symm hne) hfs H0.out B1 (Nat.le_trans l1 hwb) (Nat.le_trans l1 hfb) HL.out)
    rw [← HEq.out, ← HN.out] at HV
    subst hz
    clear h1 h2 b1 B1 sb wx of hfb hwb hne hfs h8 HF HOk l1
    go_wp2_with fail
    refine Calls.mono HV.out ?_
    rintro z2 W2 ⟨q1, q2, q3⟩
    by_cases hz : E = 0
    · obtain ⟨xs, ys, zs, v, O, k1, k2, k3, rfl, k5, k6⟩ := q3 hz
      have HQ := Lib.hid (And.intro q1 (And.intro hz (And.intro k1 (And.intro k2 (And.intro k3 (And.intro k5 k6))))))
      clear q1 q2 q3 hz k1 k2 k3 k5 k6 HV
      go_wp2
      go_ret2
      obtain ⟨q1, hz, k1, k2, k3, k5, k6⟩ := HQ.out
      exact ⟨q1, fun z => absurd hz z, fun _ => ⟨xs, ys, zs, v, O, k1, k2, k3, rfl, k5, k6⟩⟩
    · have hz2 := q2 hz
      subst hz2
      have HQ := Lib.hid (And.intro q1 hz)
      clear q1 q2 q3 hz HV
      go_wp2
      go_ret2
      exact ⟨HQ.out.1, fun _ => rfl, fun z => absurd z HQ.out.2⟩
  · have hz2 := h1 hz
    subst hz2
    have b0 : (R != 0) = true := by simp [hz]
    have HEq : Hid (E = R ∧ R ≠ 0) := ⟨by rw [HE.out, if_pos hz], hz⟩
    clear h1 h2 b1 B1 hz HF HOk
    go_wp2
    go_ret2
    exact ⟨HB1.out, fun _ => by rw [HEq.out.1]; rfl, fun z => absurd (HEq.out.1.symm.trans z) HEq.out.2⟩
end Go.Proofs.Ythhkpkfpifllkaa
