import Derived.Test.YthhkpkfpifllkaaGreatK02
import Derived.Deep.DeepCutAuto
namespace Go.Proofs.YthhkpkfpifllkaaGreat
open Go.RowKit
set_option linter.unusedVariables false

structure SpD where
  begun : Bool
  last : EntD
  family : Int
  mask : Int
  rank : Int
  waiting : Bool
  seq : Int
def SpD.dat (s : SpD) : Sp := ⟨s.begun, s.last.dat, s.family, s.mask, s.rank, s.waiting, s.seq⟩
def WCells (fv : Value) (clock : Int) (tv : Value) (s : SpD) : Array Value := #[fv, .int .i64 clock, tv, .bool s.begun, s.last.vr, .int .i64 s.last.fam, s.last.vq, .int .i64 s.last.ts, .int .i64 s.last.seq, .int .i64 s.last.kind, s.last.vv, .int .i64 s.family, .int .i64 s.mask, .int .i64 s.rank, .bool s.waiting, .int .i64 s.seq]
def WBx (w : World) (b : Nat) (fv : Value) (clock : Int) (tv : Value) (s : SpD) : Prop := w.heap[b]? = some (.cells (WCells fv clock tv s) 148 (0, 0))
variable {w w' : World} {b : Nat} {fv tv : Value} {clock : Int} {s : SpD}
theorem WBx.keep (h : WBx w b fv clock tv s) (hb : w'.heap[b]? = w.heap[b]?) : WBx w' b fv clock tv s := hb.trans h
theorem WBx.lt (h : WBx w b fv clock tv s) : b < w.heap.size := (Array.getElem?_eq_some_iff.1 h).1
theorem WBx.later (h : WBx w b fv clock tv s) (k : Below w.heap.size w w') : WBx w' b fv clock tv s := h.keep (k.block b h.lt)
theorem WBx.at (h : WBx w b fv clock tv s) (i : Nat) : w.cell? ⟨b, i, none⟩ = (WCells fv clock tv s)[i]? := by
  unfold WBx at h
  simp [World.cell?, h]
theorem WBx.fz (h : WBx w b fv clock tv s) (i : Nat) : w.frozen? ⟨b, i, none⟩ = false := by
  unfold WBx at h
  simp [World.frozen?, h]
theorem WBx.c0 (h : WBx w b fv clock tv s) : w.cell? ⟨b, 0, none⟩ = some fv := h.at 0
theorem WBx.c1 (h : WBx w b fv clock tv s) : w.cell? ⟨b, 1, none⟩ = some (.int .i64 clock) := h.at 1
theorem WBx.c2 (h : WBx w b fv clock tv s) : w.cell? ⟨b, 2, none⟩ = some tv := h.at 2
theorem WBx.c3 (h : WBx w b fv clock tv s) : w.cell? ⟨b, 3, none⟩ = some (.bool s.begun) := h.at 3
theorem WBx.c11 (h : WBx w b fv clock tv s) : w.cell? ⟨b, 11, none⟩ = some (.int .i64 s.family) := h.at 11
theorem WBx.c12 (h : WBx w b fv clock tv s) : w.cell? ⟨b, 12, none⟩ = some (.int .i64 s.mask) := h.at 12
theorem WBx.c13 (h : WBx w b fv clock tv s) : w.cell? ⟨b, 13, none⟩ = some (.int .i64 s.rank) := h.at 13
theorem WBx.c14 (h : WBx w b fv clock tv s) : w.cell? ⟨b, 14, none⟩ = some (.bool s.waiting) := h.at 14
theorem WBx.c15 (h : WBx w b fv clock tv s) : w.cell? ⟨b, 15, none⟩ = some (.int .i64 s.seq) := h.at 15
theorem WBx.last7 (h : WBx w b fv clock tv s) : w.cell? ⟨b, 4, none⟩ = some s.last.vr ∧ w.cell? ⟨b, 5, none⟩ = some (.int .i64 s.last.fam) ∧ w.cell? ⟨b, 6, none⟩ = some s.last.vq ∧ w.cell? ⟨b, 7, none⟩ = some (.int .i64 s.last.ts) ∧ w.cell? ⟨b, 8, none⟩ = some (.int .i64 s.last.seq) ∧ w.cell? ⟨b, 9, none⟩ = some (.int .i64 s.last.kind) ∧ w.cell? ⟨b, 10, none⟩ = some s.last.vv := ⟨h.at 4, h.at 5, h.at 6, h.at 7, h.at 8, h.at 9, h.at 10⟩
theorem WBx.set {i : Nat} {v : Value} {s' : SpD} (h : WBx w b fv clock tv s) (e : (WCells fv clock tv s).setIfInBounds i v = WCells fv clock tv s') : WBx (w.setCell ⟨b, i, none⟩ v) b fv clock tv s' := by
  unfold WBx at *
  simp [World.setCell, Array.getElem?_modify, h, e]
theorem WBx.setFamily (h : WBx w b fv clock tv s) (x : Int) : WBx (w.setCell ⟨b, 11, none⟩ (.int .i64 x)) b fv clock tv { s with family := x } := h.set rfl
theorem WBx.setMask (h : WBx w b fv clock tv s) (x : Int) : WBx (w.setCell ⟨b, 12, none⟩ (.int .i64 x)) b fv clock tv { s with mask := x } := h.set rfl
theorem WBx.setRank (h : WBx w b fv clock tv s) (x : Int) : WBx (w.setCell ⟨b, 13, none⟩ (.int .i64 x)) b fv clock tv { s with rank := x } := h.set rfl
theorem WBx.setWaiting (h : WBx w b fv clock tv s) (x : Bool) : WBx (w.setCell ⟨b, 14, none⟩ (.bool x)) b fv clock tv { s with waiting := x } := h.set rfl
theorem WBx.setSeq (h : WBx w b fv clock tv s) (x : Int) : WBx (w.setCell ⟨b, 15, none⟩ (.int .i64 x)) b fv clock tv { s with seq := x } := h.set rfl

structure Tf (W W' : World) (O O' : Nat → Prop) : Prop where
  os : W'.os = W.os
  tape : W'.tape = W.tape
  output : W'.output = W.output
  size : W.heap.size ≤ W'.heap.size
  block : ∀ i, i < W.heap.size → ¬ O i → W'.heap[i]? = W.heap[i]?
  own : ∀ i, O' i → O i ∨ W.heap.size ≤ i
def vdV (e : EntD) (ft rk : Int) : Value := .agg #[e.vr, .int .i64 e.fam, e.vq, .int .i64 e.ts, .int .i64 e.seq, .int .i64 e.kind, e.vv, .int .i64 ft, .int .i64 rk]
structure Teller (g rb : Nat) (T : World → (Nat → Prop) → List Vd → Prop) : Prop where
  enters : ∀ args w, (callFunc g args).run Tryz.prog w = .ok (.enter g args) w
  keep : ∀ {W W' : World} {O : Nat → Prop} {vs : List Vd}, T W O vs → (∀ i, O i → W'.heap[i]? = W.heap[i]?) → W.heap.size ≤ W'.heap.size → T W' O vs
  lt : ∀ {W : World} {O : Nat → Prop} {vs : List Vd} {i : Nat}, T W O vs → O i → i < W.heap.size
  say : ∀ {W : World} {O : Nat → Prop} {vs : List Vd} {e : EntD} (ft rk : Int) {n : Nat}, T W O vs → EntD.Ok W e → Fit n e.dat → vs.length < 1353245080339 →
    Calls Tryz.prog g #[.pointer (some ⟨rb, 0, none⟩), vdV e ft rk] W fun r W' => r = .returned (.tuple #[]) ∧ ∃ O', T W' O' (vs ++ [⟨e.dat, ft, rk⟩]) ∧ Tf W W' O O'
def FBx (w : World) (b : Nat) (f : FamD) : Prop := w.heap[b]? = some (.cells #[.string f.nm, .int .i64 f.mx, .int .i64 f.tl] 132 (0, 0))
def VBx (w : World) (b : Nat) (e : EntD) (ft rk : Int) : Prop := w.heap[b]? = some (.cells #[e.vr, .int .i64 e.fam, e.vq, .int .i64 e.ts, .int .i64 e.seq, .int .i64 e.kind, e.vv, .int .i64 ft, .int .i64 rk] 152 (0, 0))
theorem FBx.c1 {f : FamD} (h : FBx w b f) : w.cell? ⟨b, 1, none⟩ = some (.int .i64 f.mx) := by unfold FBx at h; simp [World.cell?, h]
theorem FBx.c2 {f : FamD} (h : FBx w b f) : w.cell? ⟨b, 2, none⟩ = some (.int .i64 f.tl) := by unfold FBx at h; simp [World.cell?, h]
theorem FBx.keep {f : FamD} (h : FBx w b f) (k : w'.heap[b]? = w.heap[b]?) : FBx w' b f := k.trans h
theorem VBx.keep {e : EntD} {ft rk : Int} (h : VBx w b e ft rk) (k : w'.heap[b]? = w.heap[b]?) : VBx w' b e ft rk := k.trans h
theorem VBx.lt {e : EntD} {ft rk : Int} (h : VBx w b e ft rk) : b < w.heap.size := (Array.getElem?_eq_some_iff.1 h).1
theorem FBx.lt {f : FamD} (h : FBx w b f) : b < w.heap.size := (Array.getElem?_eq_some_iff.1 h).1
theorem VBx.fz {e : EntD} {ft rk : Int} (h : VBx w b e ft rk) (i : Nat) : w.frozen? ⟨b, i, none⟩ = false := by unfold VBx at h; simp [World.frozen?, h]
theorem VBx.all {e : EntD} {ft rk : Int} (h : VBx w b e ft rk) : w.cell? ⟨b, 0, none⟩ = some e.vr ∧ w.cell? ⟨b, 1, none⟩ = some (.int .i64 e.fam) ∧ w.cell? ⟨b, 2, none⟩ = some e.vq ∧ w.cell? ⟨b, 3, none⟩ = some (.int .i64 e.ts) ∧ w.cell? ⟨b, 4, none⟩ = some (.int .i64 e.seq) ∧ w.cell? ⟨b, 5, none⟩ = some (.int .i64 e.kind) ∧ w.cell? ⟨b, 6, none⟩ = some e.vv ∧ w.cell? ⟨b, 7, none⟩ = some (.int .i64 ft) ∧ w.cell? ⟨b, 8, none⟩ = some (.int .i64 rk) := by
  unfold VBx at h
  simp [World.cell?, h]
theorem VBx.set7 {e : EntD} {ft rk : Int} (h : VBx w b e ft rk) (x : Int) : VBx (w.setCell ⟨b, 7, none⟩ (.int .i64 x)) b e x rk := by
  unfold VBx at *
  simp [World.setCell, Array.getElem?_modify, h]
theorem VBx.set8 {e : EntD} {ft rk : Int} (h : VBx w b e ft rk) (x : Int) : VBx (w.setCell ⟨b, 8, none⟩ (.int .i64 x)) b e ft x := by
  unfold VBx at *
  simp [World.setCell, Array.getElem?_modify, h]
theorem Rd.vput {x : Value} {bs : List Nat} {q : Nat} {e : EntD} {ft rk : Int} (h : Rd w x bs) (k : VBx w q e ft rk) (he : EntD.Ok w e) (hg : w.grownBy w' (some q)) : Rd w' x bs := by
  obtain ⟨h1, a, cap, rfl, h3, h4, h5, h6, h7⟩ := h
  refine ⟨h1, a, cap, rfl, h3, h4, h5, h6, ?_⟩
  rcases h7 with h7 | ⟨b', off, rfl, hc⟩
  · exact .inl h7
  · refine .inr ⟨b', off, rfl, fun i hi => hg.cell (hc i hi) (fun z => ?_)⟩
    cases z
    have c := hc i hi
    obtain ⟨_, a1, n1, e1, _⟩ := he.1
    obtain ⟨_, a2, n2, e2, _⟩ := he.2.1
    obtain ⟨_, a3, n3, e3, _⟩ := he.2.2
    unfold VBx at k
    rw [e1, e2, e3] at k
    simp only [World.cell?, k] at c
    generalize off + i = j at c
    by_cases hj : j < 9
    · have : j = 0 ∨ j = 1 ∨ j = 2 ∨ j = 3 ∨ j = 4 ∨ j = 5 ∨ j = 6 ∨ j = 7 ∨ j = 8 := by omega
      rcases this with rfl | rfl | rfl | rfl | rfl | rfl | rfl | rfl | rfl <;> simp at c
    · rw [Array.getElem?_eq_none (by simp; omega)] at c
      simp at c
theorem EntD.vput {x e : EntD} {q : Nat} {ft rk : Int} (h : EntD.Ok w x) (k : VBx w q e ft rk) (he : EntD.Ok w e) (hg : w.grownBy w' (some q)) : EntD.Ok w' x := ⟨h.1.vput k he hg, h.2.1.vput k he hg, h.2.2.vput k he hg⟩
structure Base extends World where
  lo : Nat
  L : Nat → Prop
instance : Coe World Base := ⟨fun w => ⟨w, w.heap.size, fun _ => False⟩⟩
def Fr0 (W0 : Base) (wb rb : Nat) (W : World) : Prop := W0.heap.size ≤ W.heap.size ∧ ∀ i, i < W0.heap.size → i ≠ wb → i ≠ rb → ¬ W0.L i → W.heap[i]? = W0.heap[i]?
theorem grown1 (w : World) (b i : Nat) (u : Value) : w.grownBy (w.setCell ⟨b, i, none⟩ u) (some b) :=
  ⟨rfl, rfl, rfl, by simp, fun k hk hne => Below.heap_setCell _ _ _ _ (fun e => hne (by rw [e]))⟩
theorem _root_.Go.World.grownBy.drew {w w' : World} {o : Option Nat} (h : w.grownBy w' o) : w.grownBy w'.drew o := ⟨h.os, h.tape, h.output, h.size, h.block⟩
theorem grown2 (w : World) (b i j : Nat) (u v : Value) : w.grownBy ((w.setCell ⟨b, i, none⟩ u).setCell ⟨b, j, none⟩ v) (some b) :=
  ⟨rfl, rfl, rfl, by simp, fun k hk hne => (Below.heap_setCell _ _ _ _ (fun e => hne (by rw [e]))).trans (Below.heap_setCell _ _ _ _ (fun e => hne (by rw [e])))⟩
structure Wk (W0 : Base) (wb g rb : Nat) (fv : Value) (fs : List FamD) (clock : Int) (T : World → (Nat → Prop) → List Vd → Prop) (W : World) (O : Nat → Prop) (s : SpD) (vs : List Vd) : Prop where
  box : WBx W wb fv clock (.func (.func g) #[.pointer (some ⟨rb, 0, none⟩)] #[]) s
  fam : ∀ Z, Fr0 W0 wb rb Z → RdF Z fv fs
  tell : T W O vs
  own : Own W W0.lo s.last.vr s.last.row.length s.last.row ∧ Own W W0.lo s.last.vq s.last.qual.length s.last.qual ∧ Own W W0.lo s.last.vv s.last.val.length s.last.val
  lastL : ∀ k, s.last.vr.ownBlock = some k ∨ s.last.vq.ownBlock = some k ∨ s.last.vv.ownBlock = some k → W0.L k ∨ W0.heap.size ≤ k
  apart : (∀ k, s.last.vr.ownBlock = some k → s.last.vq.ownBlock ≠ some k ∧ s.last.vv.ownBlock ≠ some k) ∧ ∀ k, s.last.vq.ownBlock = some k → s.last.vv.ownBlock ≠ some k
  apO : ∀ k, s.last.vr.ownBlock = some k ∨ s.last.vq.ownBlock = some k ∨ s.last.vv.ownBlock = some k → ¬ O k
  low : ∀ i, O i → i = rb ∨ W0.heap.size ≤ i
  lo : W0.lo ≤ W0.heap.size
  wlow : wb < W0.heap.size ∧ wb ≠ rb ∧ ¬ W0.L wb
  rank : 0 ≤ s.rank ∧ s.rank ≤ vs.length + 1
  mask : 0 ≤ s.mask ∧ 0 ≤ s.family
  bys : Bys s.last.row ∧ Bys s.last.qual ∧ Bys s.last.val
  few : s.last.row.length ≤ 256 ∧ s.last.qual.length ≤ 256 ∧ s.last.val.length ≤ 4096
  wait : s.begun = true → Fit fs.length s.last.dat
  os : W.os = W0.os
  tape : W.tape = W0.tape
  output : W.output = W0.output
  fr : Fr0 W0 wb rb W
theorem own_form' {w : World} {B m : Nat} {v : Value} {xs : List Nat} (h : Own w B v m xs) : ∃ a c, v = .slice a m c := by
  rcases h.2.2 with ⟨h1, h2⟩ | ⟨g, cap, cur, h1, _⟩
  · exact ⟨none, 0, by rw [h1, h2]⟩
  · exact ⟨_, _, h1⟩
section
variable {W0 : Base} {W W' : World} {wb g rb : Nat} {fv : Value} {fs : List FamD} {clock : Int} {T : World → (Nat → Prop) → List Vd → Prop} {O O' : Nat → Prop} {s s' : SpD} {vs us : List Vd}
theorem Wk.notO (h : Wk W0 wb g rb fv fs clock T W O s vs) : ¬ O wb := fun k => by
  have := h.wlow
  rcases h.low wb k with e | e
  · exact this.2.1 e
  · omega
theorem Wk.lastw (h : Wk W0 wb g rb fv fs clock T W O s vs) (k : Nat) (hk : s.last.vr.ownBlock = some k ∨ s.last.vq.ownBlock = some k ∨ s.last.vv.ownBlock = some k) : k ≠ wb := fun z => by
  have := h.wlow
  rcases h.lastL k hk with e | e
  · exact this.2.2 (z ▸ e)
  · omega
theorem Wk.lastlt (h : Wk W0 wb g rb fv fs clock T W O s vs) (k : Nat) (hk : s.last.vr.ownBlock = some k ∨ s.last.vq.ownBlock = some k ∨ s.last.vv.ownBlock = some k) : W0.lo ≤ k ∧ k < W.heap.size := by
  rcases hk with hk | hk | hk
  · exact h.own.1.2.lt k hk
  · exact h.own.2.1.2.lt k hk
  · exact h.own.2.2.2.lt k hk
theorem Wk.noByte (h : Wk W0 wb g rb fv fs clock T W O s vs) (i : Nat) (n : Int) : W.cell? ⟨wb, i, none⟩ ≠ some (.int .u8 n) := fun k => by
  rw [h.box.at i] at k
  obtain ⟨a0, c0, rfl, _⟩ := h.fam W h.fr
  obtain ⟨a1, n1, c1, e1⟩ : ∃ a n c, s.last.vr = .slice a n c := by obtain ⟨a, c, e⟩ := own_form' h.own.1; exact ⟨_, _, _, e⟩
  obtain ⟨a2, n2, c2, e2⟩ : ∃ a n c, s.last.vq = .slice a n c := by obtain ⟨a, c, e⟩ := own_form' h.own.2.1; exact ⟨_, _, _, e⟩
  obtain ⟨a3, n3, c3, e3⟩ : ∃ a n c, s.last.vv = .slice a n c := by obtain ⟨a, c, e⟩ := own_form' h.own.2.2; exact ⟨_, _, _, e⟩
  unfold WCells at k
  rw [e1, e2, e3] at k
  by_cases hi : i < 16
  · have : i = 0 ∨ i = 1 ∨ i = 2 ∨ i = 3 ∨ i = 4 ∨ i = 5 ∨ i = 6 ∨ i = 7 ∨ i = 8 ∨ i = 9 ∨ i = 10 ∨ i = 11 ∨ i = 12 ∨ i = 13 ∨ i = 14 ∨ i = 15 := by omega
    rcases this with rfl | rfl | rfl | rfl | rfl | rfl | rfl | rfl | rfl | rfl | rfl | rfl | rfl | rfl | rfl | rfl <;> simp at k
  · rw [Array.getElem?_eq_none (by simp; omega)] at k
    cases k
theorem Wk.rd (h : Wk W0 wb g rb fv fs clock T W O s vs) {x : Value} {bs : List Nat} (r : Rd W x bs) (hg : W.grownBy W' (some wb)) : Rd W' x bs := by
  obtain ⟨h1, a, cap, rfl, h3, h4, h5, h6, h7⟩ := r
  refine ⟨h1, a, cap, rfl, h3, h4, h5, h6, ?_⟩
  rcases h7 with h7 | ⟨q, off, rfl, hc⟩
  · exact .inl h7
  · refine .inr ⟨q, off, rfl, fun i hi => hg.cell (hc i hi) (fun e => ?_)⟩
    cases e
    exact h.noByte _ _ (hc i hi)
theorem Wk.ent (h : Wk W0 wb g rb fv fs clock T W O s vs) {e : EntD} (r : EntD.Ok W e) (hg : W.grownBy W' (some wb)) : EntD.Ok W' e := ⟨h.rd r.1 hg, h.rd r.2.1 hg, h.rd r.2.2 hg⟩
theorem Wk.told (h : Wk W0 wb g rb fv fs clock T W O s vs) (t : T W' O' (vs ++ us)) (f : Tf W W' O O') : Wk W0 wb g rb fv fs clock T W' O' s (vs ++ us) := by
  have hlt := h.lastlt
  have sm : ∀ k, s.last.vr.ownBlock = some k ∨ s.last.vq.ownBlock = some k ∨ s.last.vv.ownBlock = some k → W'.heap[k]? = W.heap[k]? := fun k hk => f.block k (hlt k hk).2 (h.apO k hk)
  refine ⟨h.box.keep (f.block wb h.box.lt h.notO), h.fam, t, ⟨own_same h.own.1 (fun k hk => sm k (.inl hk)), own_same h.own.2.1 (fun k hk => sm k (.inr (.inl hk))), own_same h.own.2.2 (fun k hk => sm k (.inr (.inr hk)))⟩, h.lastL, h.apart, fun k hk ho => ?_, fun i hi => ?_, h.lo, h.wlow, ⟨h.rank.1, ?_⟩, h.mask, h.bys, h.few, h.wait, f.os.trans h.os, f.tape.trans h.tape, f.output.trans h.output, Nat.le_trans h.fr.1 f.size, fun i hi h1 h2 h3 => ?_⟩
  · rcases f.own k ho with k1 | k1
    · exact h.apO k hk k1
    · have := (hlt k hk).2; omega
  · rcases f.own i hi with k1 | k1
    · exact h.low i k1
    · exact .inr (Nat.le_trans h.fr.1 k1)
  · have := h.rank.2; rw [List.length_append]; omega
  · rw [f.block i (Nat.lt_of_lt_of_le hi h.fr.1) (fun k => by rcases h.low i k with e | e; exact h2 e; omega)]
    exact h.fr.2 i hi h1 h2 h3
theorem Wk.put (ht : Teller g rb T) (h : Wk W0 wb g rb fv fs clock T W O s vs) (hb : WBx W' wb fv clock (.func (.func g) #[.pointer (some ⟨rb, 0, none⟩)] #[]) s') (hg : W.grownBy W' (some wb)) (hl : s'.last = s.last) (hr : 0 ≤ s'.rank ∧ s'.rank ≤ vs.length + 1) (hm : 0 ≤ s'.mask ∧ 0 ≤ s'.family) (hw : s'.begun = true → Fit fs.length s.last.dat) : Wk W0 wb g rb fv fs clock T W' O s' vs := by
  have hlt := h.lastlt
  have sm : ∀ k, s.last.vr.ownBlock = some k ∨ s.last.vq.ownBlock = some k ∨ s.last.vv.ownBlock = some k → W'.heap[k]? = W.heap[k]? := fun k hk => hg.block k (hlt k hk).2 (fun e => by cases e; exact h.lastw _ hk rfl)
  refine ⟨hb, h.fam, ht.keep h.tell (fun i hi => hg.block i (ht.lt h.tell hi) (fun e => by cases e; exact h.notO hi)) hg.size, ?_, by rw [hl]; exact h.lastL, by rw [hl]; exact h.apart, by rw [hl]; exact h.apO, h.low, h.lo, h.wlow, hr, hm, by rw [hl]; exact h.bys, by rw [hl]; exact h.few, by rw [hl]; exact hw, hg.os.trans h.os, hg.tape.trans h.tape, hg.output.trans h.output, Nat.le_trans h.fr.1 hg.size, fun i hi h1 h2 h3 => ?_⟩
  · rw [hl]
    exact ⟨own_same h.own.1 (fun k hk => sm k (.inl hk)), own_same h.own.2.1 (fun k hk => sm k (.inr (.inl hk))), own_same h.own.2.2 (fun k hk => sm k (.inr (.inr hk)))⟩
  · rw [hg.block i (Nat.lt_of_lt_of_le hi h.fr.1) (fun e => by cases e; exact h1 rfl)]
    exact h.fr.2 i hi h1 h2 h3
theorem Wk.later (ht : Teller g rb T) (h : Wk W0 wb g rb fv fs clock T W O s vs) (k : Below W.heap.size W W') : Wk W0 wb g rb fv fs clock T W' O s vs :=
  h.put ht (h.box.later k) ⟨k.os, k.tape, k.output, k.size, fun i hi _ => k.block i hi⟩ rfl h.rank h.mask h.wait
theorem Tf.ebox {X X' : World} {O O' : Nat → Prop} {q : Nat} {e : EntD} (f : Tf X X' O O') (hq : ¬ O q) (h : EBox X q e) : EBox X' q e := (f.block q (Array.getElem?_eq_some_iff.1 h).1 hq).trans h
theorem Wk.fresh (ht : Teller g rb T) (h : Wk W0 wb g rb fv fs clock T W O s vs) {q : Nat} (hq : W.heap.size ≤ q) : ¬ O q := fun k => by have := ht.lt h.tell k; omega
theorem Wk.far (ht : Teller g rb T) (h : Wk W0 wb g rb fv fs clock T W O s vs) {q : Nat} (hg : W.grownBy W' (some q)) (h0 : W0.heap.size ≤ q) (h1 : ¬ O q) (h2 : ∀ k, s.last.vr.ownBlock = some k ∨ s.last.vq.ownBlock = some k ∨ s.last.vv.ownBlock = some k → k ≠ q) : Wk W0 wb g rb fv fs clock T W' O s vs := by
  have hlt := h.lastlt
  have sm : ∀ k, s.last.vr.ownBlock = some k ∨ s.last.vq.ownBlock = some k ∨ s.last.vv.ownBlock = some k → W'.heap[k]? = W.heap[k]? := fun k hk => hg.block k (hlt k hk).2 (fun e => h2 k hk (by cases e; rfl))
  refine ⟨h.box.keep (hg.block wb h.box.lt (fun e => by have := h.wlow; cases e; omega)), h.fam, ht.keep h.tell (fun i hi => hg.block i (ht.lt h.tell hi) (fun e => by cases e; exact h1 hi)) hg.size, ⟨own_same h.own.1 (fun k hk => sm k (.inl hk)), own_same h.own.2.1 (fun k hk => sm k (.inr (.inl hk))), own_same h.own.2.2 (fun k hk => sm k (.inr (.inr hk)))⟩, h.lastL, h.apart, h.apO, h.low, h.lo, h.wlow, h.rank, h.mask, h.bys, h.few, h.wait, hg.os.trans h.os, hg.tape.trans h.tape, hg.output.trans h.output, Nat.le_trans h.fr.1 hg.size, fun i hi k1 k2 k3 => ?_⟩
  rw [hg.block i (Nat.lt_of_lt_of_le hi h.fr.1) (fun e => by cases e; omega)]
  exact h.fr.2 i hi k1 k2 k3
theorem Wk.ok (h : Wk W0 wb g rb fv fs clock T W O s vs) : EntD.Ok W s.last := by
  obtain ⟨b1, b2, b3⟩ := h.bys
  obtain ⟨f1, f2, f3⟩ := h.few
  exact ⟨h.own.1.rd b1 (by omega), h.own.2.1.rd b2 (by omega), h.own.2.2.rd b3 (by omega)⟩
end
end Go.Proofs.YthhkpkfpifllkaaGreat

namespace Go.Proofs.YthhkpkfpifllkaaGreat
open Go.RowKit
set_option linter.unusedVariables false
variable {W0 : Base} {W : World} {wb g rb : Nat} {fv : Value} {fs : List FamD} {clock : Int} {T : World → (Nat → Prop) → List Vd → Prop} {O : Nat → Prop} {s : SpD} {vs : List Vd} {e : EntD}

set_option maxRecDepth 100000 in
set_option maxHeartbeats 4000000 in
theorem stretch_any (ht : Teller g rb T) (h : Wk W0 wb g rb fv fs clock T W O s vs) (he : EntD.Ok W e) (hf : Fit fs.length e.dat) (hv : vs.length < 1353245080339) :
    Calls Tryz.prog 121 #[.pointer (some ⟨wb, 0, none⟩), .agg e.cells] W fun r W' => r = .returned (.tuple #[]) ∧ ∃ O' s', Wk W0 wb g rb fv fs clock T W' O' s' (vs ++ [(stretchS s.dat e.dat).1]) ∧ s'.dat = (stretchS s.dat e.dat).2 ∧ s'.last = s.last := by
  have A := (Below.refl W.heap.size W).alloc (Nat.le_refl _) (.cells e.cells 84)
  have eb := EBox.new W e
  have h1 := h.later ht A
  have he1 := he.later A
  obtain ⟨X, hX⟩ : ∃ X, X = W.alloc (.cells e.cells 84) := ⟨_, rfl⟩
  rw [← hX] at eb h1 he1
  have HX := Lib.hid hX
  have HT := Lib.hid ht
  have HF := Lib.hid hf
  have HU : Hid (∀ Z, Below X.heap.size X Z → Wk W0 wb g rb fv fs clock T Z O s vs ∧ EBox Z W.heap.size e ∧ EntD.Ok Z e) := fun Z b => ⟨h1.later ht b, eb.later b, he1.later b⟩
  have eg := ht.enters
  have D0 : Below X.heap.size X X.drew := (Below.refl _ _).drew
  have hne : wb ≠ W.heap.size := by have := h.wlow; have := h.fr.1; omega
  have hmk : 0 ≤ s.mask := h.mask.1
  have hne' : W.heap.size ≠ wb := hne.symm
  have HQ : Hid (¬ O W.heap.size) := h.fresh ht (Nat.le_refl _)
  obtain ⟨qb, hqb⟩ : ∃ q, q = W.heap.size := ⟨_, rfl⟩
  have hqb' := hqb.symm
  rw [← hqb] at HU hne HQ hne'
  unfold EntD.cells at HX ⊢
  clear ht h he hf A hX eb h1 he1 hqb
  have x3 := (HU.out _ D0).2.1.ts
  have y12 := (HU.out _ D0).1.box.c12
  go_enter Tryz.func121, Tryz.ntmps121
  by_cases hm : e.ts ≤ s.mask
  · go_wp2_with fail
    rw [← HX.out]
    (try rw [hqb'])
    clear hqb'
    go_region_held3 (fun Z => Z.cell? ⟨qb, 3, none⟩ = some (.int .i64 e.ts) ∧ Z.cell? ⟨wb, 12, none⟩ = some (.int .i64 s.mask)) (first | exact ⟨x3, y12⟩) (fail)
    clear x3 y12
    have D1 : Below X.heap.size X X.drew.drew := D0.drew
    have HC := Lib.hid (HT.out.say 8 0 (HU.out _ D1).1.tell (HU.out _ D1).2.2 HF.out hv)
    have z2 := (HU.out _ D1).1.box.c2
    have ze := (HU.out _ D1).2.1.cells7
    unfold vdV at HC
    go_wp2_with fail
    go_region_held3 (fun Z => Z.cell? ⟨wb, 2, none⟩ = some (.func (.func g) #[.pointer (some ⟨rb, 0, none⟩)] #[]) ∧ Z.cell? ⟨qb, 0, none⟩ = some e.vr ∧ Z.cell? ⟨qb, 1, none⟩ = some (.int .i64 e.fam) ∧ Z.cell? ⟨qb, 2, none⟩ = some e.vq ∧ Z.cell? ⟨qb, 3, none⟩ = some (.int .i64 e.ts) ∧ Z.cell? ⟨qb, 4, none⟩ = some (.int .i64 e.seq) ∧ Z.cell? ⟨qb, 5, none⟩ = some (.int .i64 e.kind) ∧ Z.cell? ⟨qb, 6, none⟩ = some e.vv) (first | exact ⟨K2.box.c2, eb2.cells7⟩ | exact ⟨z2, ze⟩) ((refine Calls.mono HC.out ?_; rintro z X2 ⟨rfl, O2, t2, f2⟩; have K2 := (HU.out _ D1).1.told t2 f2; have eb2 := f2.ebox HQ.out (HU.out _ D1).2.1))
    have HK := Lib.hid K2
    clear K2 eb2 t2 f2 z2 ze D0 D1
    go_wp2
    refine bodyPost_ret (results_none rfl _ _ _) rfl ?_
    refine ⟨rfl, O2, s, ?_, ?_, rfl⟩
    · have e1 : (stretchS s.dat e.dat).1 = ⟨e.dat, 8, 0⟩ := by unfold stretchS; rw [if_pos (show e.dat.ts ≤ s.dat.mask from hm)]
      rw [e1]; exact HK.out
    · unfold stretchS; rw [if_pos (show e.dat.ts ≤ s.dat.mask from hm)]
  · go_wp2_with fail
    rw [← HX.out]
    (try rw [hqb'])
    clear hqb'
    go_region_held3 (fun Z => Z.cell? ⟨qb, 3, none⟩ = some (.int .i64 e.ts) ∧ Z.cell? ⟨wb, 12, none⟩ = some (.int .i64 s.mask)) (first | exact ⟨x3, y12⟩) (fail)
    clear x3 y12
    have hS1 : (stretchS s.dat e.dat).1 = ⟨e.dat, 7, 0⟩ := by unfold stretchS; rw [if_neg (show ¬ e.dat.ts ≤ s.dat.mask from Int.not_le.2 hm)]
    have hS2 : (stretchS s.dat e.dat).2 = { s.dat with mask := e.ts, family := if e.kind = 5 then e.ts else s.family } := by unfold stretchS; rw [if_neg (show ¬ e.dat.ts ≤ s.dat.mask from Int.not_le.2 hm)]; rfl
    have HS := Lib.hid (And.intro hS1 hS2)
    clear hS1 hS2
    have ts2 : 1 ≤ e.ts := HF.out.ts0
    have u := HU.out X (Below.refl _ _)
    have x3 := u.2.1.ts
    have f12 := u.1.box.fz 12
    have y12 := u.1.box.c12
    have hG : X.grownBy ((X.setCell ⟨wb, 12, none⟩ (.int .i64 e.ts)).drew) (some wb) := (grown1 _ _ _ _).drew
    have K1 := u.1.put HT.out (W' := (X.setCell ⟨wb, 12, none⟩ (.int .i64 e.ts)).drew) (u.1.box.setMask e.ts) hG rfl u.1.rank ⟨by show 0 ≤ e.ts; omega, u.1.mask.2⟩ u.1.wait
    have E1 : EBox ((X.setCell ⟨wb, 12, none⟩ (.int .i64 e.ts)).drew) qb e := (hG.block qb (Array.getElem?_eq_some_iff.1 u.2.1).1 (fun k => hne (by cases k; rfl))).trans u.2.1
    have O1 := u.1.ent u.2.2 hG
    obtain ⟨Y, hY⟩ : ∃ Y, Y = (X.setCell ⟨wb, 12, none⟩ (.int .i64 e.ts)).drew := ⟨_, rfl⟩
    rw [← hY] at K1 E1 O1
    have HY := Lib.hid hY
    clear hY hG u
    go_upto_region 4 with fail
    rw [← HY.out]
    have HK1 := Lib.hid K1
    have HE1 := Lib.hid E1
    have HO1 := Lib.hid O1
    clear x3 f12 y12 K1 E1 O1 HU HY HX
    have x3 := HE1.out.ts
    have x5 := HE1.out.kind
    have f11 := HK1.out.box.fz 11
    have y11 := HK1.out.box.c11
    have HKd : Hid (e.kind = 5 ∨ ¬ e.kind = 5) := Decidable.em _
    rcases HKd.out with hk | hk
    · have hkb : (e.kind == 5) = true := by simp [hk]
      have HKk := Lib.hid hk
      clear hk HKd
      have hG : Y.grownBy (Y.setCell ⟨wb, 11, none⟩ (.int .i64 e.ts)) (some wb) := grown1 _ _ _ _
      have K2 := HK1.out.put HT.out (HK1.out.box.setFamily e.ts) hG rfl HK1.out.rank ⟨HK1.out.mask.1, by show 0 ≤ e.ts; omega⟩ HK1.out.wait
      have E2 : EBox (Y.setCell ⟨wb, 11, none⟩ (.int .i64 e.ts)) qb e := (hG.block qb (Array.getElem?_eq_some_iff.1 HE1.out).1 (fun k => hne (by cases k; rfl))).trans HE1.out
      have O2 := HK1.out.ent HO1.out hG
      obtain ⟨V, hV⟩ : ∃ V, V = Y.setCell ⟨wb, 11, none⟩ (.int .i64 e.ts) := ⟨_, rfl⟩
      rw [← hV] at K2 E2 O2
      have HV := Lib.hid hV
      clear hV hG
      go_upto_region 6 with fail
      rw [← HV.out]
      have D2 : Below V.heap.size V V.drew := (Below.refl _ _).drew
      have HC := Lib.hid (HT.out.say 7 0 (K2.later HT.out D2).tell (O2.later D2) HF.out hv)
      have HK2 := Lib.hid (K2.later HT.out D2)
      have HE2 := Lib.hid (E2.later D2)
      clear x3 x5 f11 y11 K2 E2 O2 HK1 HE1 HO1 HV
      have z2 := HK2.out.box.c2
      have ze := HE2.out.cells7
      unfold vdV at HC
      go_region_held3 (fun Z => Z.cell? ⟨wb, 2, none⟩ = some (.func (.func g) #[.pointer (some ⟨rb, 0, none⟩)] #[]) ∧ Z.cell? ⟨qb, 0, none⟩ = some e.vr ∧ Z.cell? ⟨qb, 1, none⟩ = some (.int .i64 e.fam) ∧ Z.cell? ⟨qb, 2, none⟩ = some e.vq ∧ Z.cell? ⟨qb, 3, none⟩ = some (.int .i64 e.ts) ∧ Z.cell? ⟨qb, 4, none⟩ = some (.int .i64 e.seq) ∧ Z.cell? ⟨qb, 5, none⟩ = some (.int .i64 e.kind) ∧ Z.cell? ⟨qb, 6, none⟩ = some e.vv) (first | exact ⟨K3.box.c2, eb3.cells7⟩ | exact ⟨z2, ze⟩) ((refine Calls.mono HC.out ?_; rintro z X2 ⟨rfl, O2, t2, f2⟩; have K3 := HK2.out.told t2 f2; have eb3 := f2.ebox HQ.out HE2.out))
      have HK := Lib.hid K3
      clear K3 eb3 t2 f2 z2 ze D2
      go_wp2
      go_end0
      refine ⟨rfl, O2, ⟨s.begun, s.last, e.ts, e.ts, s.rank, s.waiting, s.seq⟩, ?_, ?_, ?_⟩
      · rw [HS.out.1]; exact HK.out
      · rw [HS.out.2, if_pos HKk.out]; rfl
      · rfl
    · have hkb : (e.kind == 5) = false := by simp [hk]
      have HKk := Lib.hid hk
      clear hk HKd
      go_upto_region 6 with fail
      have D2 : Below Y.heap.size Y Y.drew := (Below.refl _ _).drew
      have HC := Lib.hid (HT.out.say 7 0 (HK1.out.later HT.out D2).tell (HO1.out.later D2) HF.out hv)
      have HK2 := Lib.hid (HK1.out.later HT.out D2)
      have HE2 := Lib.hid (HE1.out.later D2)
      clear x3 x5 f11 y11 HK1 HE1 HO1
      have z2 := HK2.out.box.c2
      have ze := HE2.out.cells7
      unfold vdV at HC
      go_region_held3 (fun Z => Z.cell? ⟨wb, 2, none⟩ = some (.func (.func g) #[.pointer (some ⟨rb, 0, none⟩)] #[]) ∧ Z.cell? ⟨qb, 0, none⟩ = some e.vr ∧ Z.cell? ⟨qb, 1, none⟩ = some (.int .i64 e.fam) ∧ Z.cell? ⟨qb, 2, none⟩ = some e.vq ∧ Z.cell? ⟨qb, 3, none⟩ = some (.int .i64 e.ts) ∧ Z.cell? ⟨qb, 4, none⟩ = some (.int .i64 e.seq) ∧ Z.cell? ⟨qb, 5, none⟩ = some (.int .i64 e.kind) ∧ Z.cell? ⟨qb, 6, none⟩ = some e.vv) (first | exact ⟨K3.box.c2, eb3.cells7⟩ | exact ⟨z2, ze⟩) ((refine Calls.mono HC.out ?_; rintro z X2 ⟨rfl, O2, t2, f2⟩; have K3 := HK2.out.told t2 f2; have eb3 := f2.ebox HQ.out HE2.out))
      have HK := Lib.hid K3
      clear K3 eb3 t2 f2 z2 ze D2
      go_wp2
      go_end0
      refine ⟨rfl, O2, ⟨s.begun, s.last, s.family, e.ts, s.rank, s.waiting, s.seq⟩, ?_, ?_, ?_⟩
      · rw [HS.out.1]; exact HK.out
      · rw [HS.out.2, if_neg HKk.out]; rfl
      · rfl
end Go.Proofs.YthhkpkfpifllkaaGreat
