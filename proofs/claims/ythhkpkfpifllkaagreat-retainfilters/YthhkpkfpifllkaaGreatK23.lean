import Derived.Test.YthhkpkfpifllkaaGreatK22
namespace Go.Proofs.YthhkpkfpifllkaaGreat
open Go.RowKit
set_option linter.unusedVariables false

section
variable {w w' : World} {N : Nat} {v : Value} {xs : List EntD} {O : Nat → Prop} {x x' : EntD} {i g : Nat}
def EBl (x : EntD) (k : Nat) : Prop := x.vr.ownBlock = some k ∨ x.vq.ownBlock = some k ∨ x.vv.ownBlock = some k
theorem set_at {j : Nat} {y : EntD} (hi : xs[i]? = some x) (h : (xs.set i x')[j]? = some y) : (j = i ∧ y = x') ∨ (j ≠ i ∧ xs[j]? = some y) := by
  have hl : i < xs.length := (List.getElem?_eq_some_iff.1 hi).1
  by_cases e : j = i
  · subst e
    rw [List.getElem?_set_self hl] at h
    exact .inl ⟨rfl, (Option.some.inj h).symm⟩
  · rw [List.getElem?_set_ne (Ne.symm e)] at h
    exact .inr ⟨e, h⟩
theorem dsj_at (h : xs.Pairwise Dsj) {p q : Nat} {a b : EntD} (hp : xs[p]? = some a) (hq : xs[q]? = some b) (hne : p ≠ q) : Dsj a b := by
  obtain ⟨lp, ep⟩ := List.getElem?_eq_some_iff.1 hp
  obtain ⟨lq, eq⟩ := List.getElem?_eq_some_iff.1 hq
  rw [List.pairwise_iff_getElem] at h
  rcases Nat.lt_or_gt_of_ne hne with z | z
  · have := h p q lp lq z
    rw [ep, eq] at this
    exact this
  · have := h q p lq lp z
    rw [ep, eq] at this
    exact fun k h1 h2 => this k h2 h1
theorem Rw.swapE (h : Rw w N v xs O) (hi : xs[i]? = some x) (hb : ∀ k, EBl x' k ↔ EBl x k) (row' : w'.ownsRow N 84 7 v (xs.set i x').length (evals (xs.set i x'))) (o3' : O3 w' N x') (hg : v.ownBlock = some g ∨ EBl x g) (gr : w.grownBy w' (some g)) : Rw w' N v (xs.set i x') O := by
  have hx := List.mem_of_getElem? hi
  refine ⟨row', fun y hy => ?_, ?_, h.rowO, fun y hy k hk => ?_⟩
  · obtain ⟨j, hj⟩ := List.getElem?_of_mem hy
    rcases set_at hi hj with ⟨-, rfl⟩ | ⟨hne, hj2⟩
    · exact o3'
    · have y3 := h.ents y (List.mem_of_getElem? hj2)
      have dj := dsj_at h.ap hi hj2 (Ne.symm hne)
      have key : ∀ {u : Value} {n : Nat} {bs : List Nat}, Own w N u n bs → (∀ k, u.ownBlock = some k → EBl y k) → Own w' N u n bs := fun o hu => own_same o (fun k hk => gr.block k (o.2.lt k hk).2 (fun z => by
        have e := Option.some.inj z
        rw [e] at hk
        rcases hg with hg | hg
        · exact byte_ent o h.row g hk hg
        · exact dj g hg (hu g hk)))
      exact ⟨key y3.row (fun k hk => .inl hk), key y3.qual (fun k hk => .inr (.inl hk)), key y3.val (fun k hk => .inr (.inr hk)), y3.arq, y3.arv, y3.aqv⟩
  · rw [List.pairwise_iff_getElem]
    intro p q hp hq hpq
    have ap : ∀ {r : Nat} {b : EntD}, (xs.set i x')[r]? = some b → ∃ b', xs[r]? = some b' ∧ ∀ k, EBl b k ↔ EBl b' k := fun {r b} hr => by
      rcases set_at hi hr with ⟨rfl, rfl⟩ | ⟨-, h2⟩
      · exact ⟨x, hi, hb⟩
      · exact ⟨b, h2, fun _ => Iff.rfl⟩
    obtain ⟨a', ha, ea⟩ := ap (List.getElem?_eq_getElem hp)
    obtain ⟨b', hb', eb⟩ := ap (List.getElem?_eq_getElem hq)
    have dj := dsj_at h.ap ha hb' (Nat.ne_of_lt hpq)
    exact fun k h1 h2 => dj k ((ea k).1 h1) ((eb k).1 h2)
  · obtain ⟨j, hj⟩ := List.getElem?_of_mem hy
    rcases set_at hi hj with ⟨-, rfl⟩ | ⟨-, hj2⟩
    · exact h.entO x hx k ((hb k).1 hk)
    · exact h.entO y (List.mem_of_getElem? hj2) k hk
theorem Rw.setFam {n c : Nat} (h : Rw w N (.slice (some ⟨g, 0, none⟩) n c) xs O) (hn : n = xs.length) (hi : xs[i]? = some x) (f : Int) : Rw (w.setCell ⟨g, i * 7 + 1, none⟩ (.int .i64 f)) N (.slice (some ⟨g, 0, none⟩) n c) (xs.set i { x with fam := f }) O := by
  have hl : i < xs.length := (List.getElem?_eq_some_iff.1 hi).1
  have gr := grown1 w g (i * 7 + 1) (.int .i64 f)
  have e3 := h.ents x (List.mem_of_getElem? hi)
  have far : ∀ {u : Value} {m : Nat} {bs : List Nat}, Own w N u m bs → Own (w.setCell ⟨g, i * 7 + 1, none⟩ (.int .i64 f)) N u m bs := fun o => own_same o (fun k hk => gr.block k (o.2.lt k hk).2 (fun z => by cases z; exact byte_ent o h.row g hk rfl))
  have row := h.row
  rw [← hn] at row
  have r2 := row_set row (k := i * 7 + 1) (by rw [evals_len]; omega) (.int .i64 f)
  refine h.swapE hi (fun _ => Iff.rfl) ?_ ⟨far e3.row, far e3.qual, far e3.val, e3.arq, e3.arv, e3.aqv⟩ (.inl rfl) gr
  rw [List.length_set, ← hn, evals_setC hi (c := 1) (v := .int .i64 f) (by decide) rfl]
  exact r2
theorem evals_still (hi : xs[i]? = some x) (hc : x'.cells = x.cells) : evals (xs.set i x') = evals xs := by
  rw [evals_setC (y' := x') hi (c := 1) (v := .int .i64 x.fam) (by decide) (by rw [hc]; rfl)]
  refine List.ext_getElem? fun j => ?_
  by_cases ej : j = i * 7 + 1
  · subst ej
    have hl : i < xs.length := (List.getElem?_eq_some_iff.1 hi).1
    rw [List.getElem?_set_self (by rw [evals_len]; omega)]
    exact (evals_at hi (j := 1) rfl).symm
  · rw [List.getElem?_set_ne (Ne.symm ej)]
theorem own_put {B n c k : Nat} {bs : List Nat} (h : Own w B (.slice (some ⟨g, 0, none⟩) n c) n bs) (hk : k < n) (b : Nat) : Own (w.setCell ⟨g, k, none⟩ (.int .u8 (b : Int))) B (.slice (some ⟨g, 0, none⟩) n c) n (bs.set k b) := by
  refine ⟨by rw [List.length_set]; exact h.1, ?_⟩
  have r := row_set h.2 (k := k) (by rw [bv_length, ← h.1]; exact hk) (.int .u8 (b : Int))
  have e : bv (bs.set k b) = (bv bs).set k (.int .u8 (b : Int)) := by simp [bv, List.map_set]
  rw [e]
  exact r
theorem Rw.setRow {m c k : Nat} (h : Rw w N v xs O) (hi : xs[i]? = some x) (ev : x.vr = .slice (some ⟨g, 0, none⟩) m c) (hk : k < x.row.length) (b : Nat) : Rw (w.setCell ⟨g, k, none⟩ (.int .u8 (b : Int))) N v (xs.set i { x with row := x.row.set k b }) O := by
  have gr := grown1 w g k (.int .u8 (b : Int))
  have e3 := h.ents x (List.mem_of_getElem? hi)
  have z : x.vr.ownBlock = some g := by rw [ev]; rfl
  have far : ∀ {u : Value} {m : Nat} {bs : List Nat}, Own w N u m bs → (u.ownBlock = some g → False) → Own (w.setCell ⟨g, k, none⟩ (.int .u8 (b : Int))) N u m bs := fun o hn => own_same o (fun j hj => gr.block j (o.2.lt j hj).2 (fun y => hn (by rw [hj, y])))
  have o0 := e3.row
  rw [ev] at o0
  have em := own_len3 o0
  subst em
  have op := own_put o0 hk b
  rw [← ev] at op
  refine h.swapE hi (fun _ => Iff.rfl) ?_ ⟨by simpa using op, far e3.qual (fun hk => e3.arq g z hk), far e3.val (fun hk => e3.arv g z hk), e3.arq, e3.arv, e3.aqv⟩ (.inr (.inl z)) gr
  have ee : evals (xs.set i { x with row := x.row.set k b }) = evals xs := evals_still hi rfl
  rw [List.length_set, ee]
  exact row_same h.row (fun j hj => gr.block j (h.row.lt j hj).2 (fun y => byte_ent e3.row h.row g z (by rw [hj, y])))
theorem Rw.setQual {m c k : Nat} (h : Rw w N v xs O) (hi : xs[i]? = some x) (ev : x.vq = .slice (some ⟨g, 0, none⟩) m c) (hk : k < x.qual.length) (b : Nat) : Rw (w.setCell ⟨g, k, none⟩ (.int .u8 (b : Int))) N v (xs.set i { x with qual := x.qual.set k b }) O := by
  have gr := grown1 w g k (.int .u8 (b : Int))
  have e3 := h.ents x (List.mem_of_getElem? hi)
  have z : x.vq.ownBlock = some g := by rw [ev]; rfl
  have far : ∀ {u : Value} {m : Nat} {bs : List Nat}, Own w N u m bs → (u.ownBlock = some g → False) → Own (w.setCell ⟨g, k, none⟩ (.int .u8 (b : Int))) N u m bs := fun o hn => own_same o (fun j hj => gr.block j (o.2.lt j hj).2 (fun y => hn (by rw [hj, y])))
  have o0 := e3.qual
  rw [ev] at o0
  have em := own_len3 o0
  subst em
  have op := own_put o0 hk b
  rw [← ev] at op
  refine h.swapE hi (fun _ => Iff.rfl) ?_ ⟨far e3.row (fun hk => e3.arq g hk z), by simpa using op, far e3.val (fun hk => e3.aqv g z hk), e3.arq, e3.arv, e3.aqv⟩ (.inr (.inr (.inl z))) gr
  have ee : evals (xs.set i { x with qual := x.qual.set k b }) = evals xs := evals_still hi rfl
  rw [List.length_set, ee]
  exact row_same h.row (fun j hj => gr.block j (h.row.lt j hj).2 (fun y => byte_ent e3.qual h.row g z (by rw [hj, y])))
theorem Rw.setVal {m c k : Nat} (h : Rw w N v xs O) (hi : xs[i]? = some x) (ev : x.vv = .slice (some ⟨g, 0, none⟩) m c) (hk : k < x.val.length) (b : Nat) : Rw (w.setCell ⟨g, k, none⟩ (.int .u8 (b : Int))) N v (xs.set i { x with val := x.val.set k b }) O := by
  have gr := grown1 w g k (.int .u8 (b : Int))
  have e3 := h.ents x (List.mem_of_getElem? hi)
  have z : x.vv.ownBlock = some g := by rw [ev]; rfl
  have far : ∀ {u : Value} {m : Nat} {bs : List Nat}, Own w N u m bs → (u.ownBlock = some g → False) → Own (w.setCell ⟨g, k, none⟩ (.int .u8 (b : Int))) N u m bs := fun o hn => own_same o (fun j hj => gr.block j (o.2.lt j hj).2 (fun y => hn (by rw [hj, y])))
  have o0 := e3.val
  rw [ev] at o0
  have em := own_len3 o0
  subst em
  have op := own_put o0 hk b
  rw [← ev] at op
  refine h.swapE hi (fun _ => Iff.rfl) ?_ ⟨far e3.row (fun hk => e3.arv g hk z), far e3.qual (fun hk => e3.aqv g hk z), by simpa using op, e3.arq, e3.arv, e3.aqv⟩ (.inr (.inr (.inr z))) gr
  have ee : evals (xs.set i { x with val := x.val.set k b }) = evals xs := evals_still hi rfl
  rw [List.length_set, ee]
  exact row_same h.row (fun j hj => gr.block j (h.row.lt j hj).2 (fun y => byte_ent e3.val h.row g z (by rw [hj, y])))
end
end Go.Proofs.YthhkpkfpifllkaaGreat

namespace Go.Proofs.YthhkpkfpifllkaaGreat
open Go.RowKit Go.Maps
set_option linter.unusedVariables false

structure SpF (W W' : World) (O : Nat → Prop) : Prop where
  os : W'.os = W.os
  tape : W'.tape = W.tape
  output : W'.output = W.output
  size : W.heap.size ≤ W'.heap.size
  block : ∀ i, i < W.heap.size → ¬ O i → W'.heap[i]? = W.heap[i]?
theorem SpF.refl (W : World) (O : Nat → Prop) : SpF W W O := ⟨rfl, rfl, rfl, Nat.le_refl _, fun _ _ _ => rfl⟩
theorem SpF.grown {W w w' : World} {O : Nat → Prop} {o : Option Nat} (h : SpF W w O) (g : w.grownBy w' o) (ho : ∀ k, o = some k → O k) : SpF W w' O :=
  ⟨g.os.trans h.os, g.tape.trans h.tape, g.output.trans h.output, Nat.le_trans h.size g.size, fun i hi hn => (g.block i (Nat.lt_of_lt_of_le hi h.size) (fun z => hn (ho i z.symm))).trans (h.block i hi hn)⟩
theorem SpF.below {W w w' : World} {O : Nat → Prop} (h : SpF W w O) (b : Below w.heap.size w w') : SpF W w' O :=
  ⟨b.os.trans h.os, b.tape.trans h.tape, b.output.trans h.output, Nat.le_trans h.size b.size, fun i hi hn => (b.block i (Nat.lt_of_lt_of_le hi h.size)).trans (h.block i hi hn)⟩
theorem SpF.of_below {W w : World} (O : Nat → Prop) (b : Below W.heap.size W w) : SpF W w O := (SpF.refl W O).below b
def Sml (x : EntD) : Prop := x.row.length ≤ 3000000 ∧ x.qual.length ≤ 3000000 ∧ x.val.length ≤ 3000000
structure Si (W : World) (N : Nat) (v : Value) (O : Nat → Prop) (n t : Nat) (u1 u2 u3 : Value) (n1 n2 n3 : Nat) (wr : World) : Prop where
  st : ∃ ys y, Rw wr N v ys O ∧ ys.length = n ∧ ys[t]? = some y ∧ (y.vr = u1 ∧ y.vq = u2 ∧ y.vv = u3) ∧ y.row.length = n1 ∧ y.qual.length = n2 ∧ y.val.length = n3
  fr : SpF W wr O
structure So (W : World) (N : Nat) (v : Value) (O : Nat → Prop) (n : Nat) (wr : World) : Prop where
  st : ∃ ys, Rw wr N v ys O ∧ ys.length = n
  fr : SpF W wr O
section
variable {W wr : World} {N n t n1 n2 n3 k c g : Nat} {v u1 u2 u3 : Value} {O : Nat → Prop}
theorem So.at (h : So W N v O n wr) (ht : t < n) : ∃ a1 a2 a3 c1 c2 c3 n1 n2 n3, Si W N v O n t (.slice a1 n1 c1) (.slice a2 n2 c2) (.slice a3 n3 c3) n1 n2 n3 wr := by
  obtain ⟨ys, h1, h2⟩ := h.st
  have e : ys[t]? = some (ys[t]'(by omega)) := List.getElem?_eq_getElem _
  have e3 := h1.ents _ (List.mem_of_getElem? e)
  obtain ⟨a1, c1, e1⟩ := own_form' e3.row
  obtain ⟨a2, c2, e2⟩ := own_form' e3.qual
  obtain ⟨a3, c3, e4⟩ := own_form' e3.val
  exact ⟨a1, a2, a3, c1, c2, c3, _, _, _, ⟨ys, _, h1, h2, e, ⟨e1, e2, e4⟩, rfl, rfl, rfl⟩, h.fr⟩
theorem Si.row (h : Si W N v O n t (.slice (some ⟨g, 0, none⟩) n1 c) u2 u3 n1 n2 n3 wr) (hk : k < n1) (b : Nat) : Si W N v O n t (.slice (some ⟨g, 0, none⟩) n1 c) u2 u3 n1 n2 n3 (wr.setCell ⟨g, k, none⟩ (.int .u8 (b : Int))) := by
  obtain ⟨ys, y, h1, h2, h3, ⟨e1, e2, e3⟩, l1, l2, l3⟩ := h.st
  have hl : t < ys.length := (List.getElem?_eq_some_iff.1 h3).1
  refine ⟨⟨_, _, h1.setRow h3 e1 (by omega) b, by rw [List.length_set]; exact h2, List.getElem?_set_self hl, ⟨e1, e2, e3⟩, by rw [List.length_set]; exact l1, l2, l3⟩, h.fr.grown (grown1 _ _ _ _) (fun j hj => by cases hj; exact h1.entO y (List.mem_of_getElem? h3) g (.inl (by rw [e1]; rfl)))⟩
theorem Si.qual (h : Si W N v O n t u1 (.slice (some ⟨g, 0, none⟩) n2 c) u3 n1 n2 n3 wr) (hk : k < n2) (b : Nat) : Si W N v O n t u1 (.slice (some ⟨g, 0, none⟩) n2 c) u3 n1 n2 n3 (wr.setCell ⟨g, k, none⟩ (.int .u8 (b : Int))) := by
  obtain ⟨ys, y, h1, h2, h3, ⟨e1, e2, e3⟩, l1, l2, l3⟩ := h.st
  have hl : t < ys.length := (List.getElem?_eq_some_iff.1 h3).1
  refine ⟨⟨_, _, h1.setQual h3 e2 (by omega) b, by rw [List.length_set]; exact h2, List.getElem?_set_self hl, ⟨e1, e2, e3⟩, l1, by rw [List.length_set]; exact l2, l3⟩, h.fr.grown (grown1 _ _ _ _) (fun j hj => by cases hj; exact h1.entO y (List.mem_of_getElem? h3) g (.inr (.inl (by rw [e2]; rfl))))⟩
theorem Si.val (h : Si W N v O n t u1 u2 (.slice (some ⟨g, 0, none⟩) n3 c) n1 n2 n3 wr) (hk : k < n3) (b : Nat) : Si W N v O n t u1 u2 (.slice (some ⟨g, 0, none⟩) n3 c) n1 n2 n3 (wr.setCell ⟨g, k, none⟩ (.int .u8 (b : Int))) := by
  obtain ⟨ys, y, h1, h2, h3, ⟨e1, e2, e3⟩, l1, l2, l3⟩ := h.st
  have hl : t < ys.length := (List.getElem?_eq_some_iff.1 h3).1
  refine ⟨⟨_, _, h1.setVal h3 e3 (by omega) b, by rw [List.length_set]; exact h2, List.getElem?_set_self hl, ⟨e1, e2, e3⟩, l1, l2, by rw [List.length_set]; exact l3⟩, h.fr.grown (grown1 _ _ _ _) (fun j hj => by cases hj; exact h1.entO y (List.mem_of_getElem? h3) g (.inr (.inr (by rw [e3]; rfl))))⟩
theorem Si.fam {m c : Nat} (h : Si W N (.slice (some ⟨g, 0, none⟩) m c) O n t u1 u2 u3 n1 n2 n3 wr) (hm : m = n) (f : Int) : So W N (.slice (some ⟨g, 0, none⟩) m c) O n (wr.setCell ⟨g, t * 7 + 1, none⟩ (.int .i64 f)) := by
  obtain ⟨ys, y, h1, h2, h3, -⟩ := h.st
  exact ⟨⟨_, h1.setFam (by omega) h3 f, by rw [List.length_set]; exact h2⟩, h.fr.grown (grown1 _ _ _ _) (fun j hj => by cases hj; exact h1.rowO g rfl)⟩
theorem Si.cells {a : Option Addr} {m c : Nat} (h : Si W N (.slice a m c) O n t u1 u2 u3 n1 n2 n3 wr) : ∃ gL, a = some ⟨gL, 0, none⟩ ∧ wr.cell? ⟨gL, t * 7, none⟩ = some u1 ∧ wr.cell? ⟨gL, t * 7 + 2, none⟩ = some u2 ∧ wr.cell? ⟨gL, t * 7 + 6, none⟩ = some u3 ∧ (∃ f, wr.cell? ⟨gL, t * 7 + 1, none⟩ = some (.int .i64 f)) ∧ ∀ i, wr.frozen? ⟨gL, i, none⟩ = false := by
  obtain ⟨ys, y, h1, h2, h3, ⟨e1, e2, e3⟩, -⟩ := h.st
  rcases h1.row.2 with ⟨r1, r2⟩ | ⟨gL, cap, cur, r1, r2, r3, -⟩
  · have hl : t < ys.length := (List.getElem?_eq_some_iff.1 h3).1
    omega
  · have r1' := r1
    simp only [Value.slice.injEq] at r1
    obtain ⟨rfl, rfl, rfl⟩ := r1
    obtain ⟨gq, eg, -, -, hc⟩ := row_cells3 h1.row h3
    simp only [Option.some.injEq, Addr.mk.injEq] at eg
    obtain ⟨rfl, -, -⟩ := eg
    have c0 := hc 0 _ rfl
    have c1 := hc 1 _ rfl
    have c2 := hc 2 _ rfl
    have c6 := hc 6 _ rfl
    simp only [Nat.add_zero] at c0
    rw [e1] at c0
    rw [e2] at c2
    rw [e3] at c6
    exact ⟨gL, rfl, c0, c2, c6, ⟨_, c1⟩, fun i => by simp [World.frozen?, r3]⟩
end
end Go.Proofs.YthhkpkfpifllkaaGreat

namespace Go.Proofs.YthhkpkfpifllkaaGreat
open Go.RowKit Go.Maps
set_option linter.unusedVariables false

theorem SpF.trans {a b c : World} {O : Nat → Prop} (h : SpF a b O) (k : SpF b c O) : SpF a c O := ⟨k.os.trans h.os, k.tape.trans h.tape, k.output.trans h.output, Nat.le_trans h.size k.size, fun i hi hn => (k.block i (Nat.lt_of_lt_of_le hi h.size) hn).trans (h.block i hi hn)⟩
theorem own_byte {w : World} {B n c k : Nat} {a : Option Addr} {bs : List Nat} (h : Own w B (.slice a n c) n bs) (hk : k < n) : ∃ g, a = some ⟨g, 0, none⟩ ∧ (∃ b, w.cell? ⟨g, k, none⟩ = some (.int .u8 b)) ∧ w.frozen? ⟨g, k, none⟩ = false := by
  rcases h.2.2 with ⟨h1, h2⟩ | ⟨g, cap, cur, h1, _, h3, _⟩
  · omega
  · simp only [Value.slice.injEq] at h1
    obtain ⟨rfl, -, rfl⟩ := h1
    exact ⟨g, rfl, ⟨_, ownCell h hk⟩, by simp [World.frozen?, h3]⟩
section
variable {W wr : World} {N n t n1 n2 n3 k c1 c2 c3 : Nat} {v : Value} {a1 a2 a3 : Option Addr} {O : Nat → Prop}
theorem Si.byte (h : Si W N v O n t (.slice a1 n1 c1) (.slice a2 n2 c2) (.slice a3 n3 c3) n1 n2 n3 wr) : (∀ k, k < n1 → ∃ g, a1 = some ⟨g, 0, none⟩ ∧ (∃ b, wr.cell? ⟨g, k, none⟩ = some (.int .u8 b)) ∧ wr.frozen? ⟨g, k, none⟩ = false) ∧ (∀ k, k < n2 → ∃ g, a2 = some ⟨g, 0, none⟩ ∧ (∃ b, wr.cell? ⟨g, k, none⟩ = some (.int .u8 b)) ∧ wr.frozen? ⟨g, k, none⟩ = false) ∧ (∀ k, k < n3 → ∃ g, a3 = some ⟨g, 0, none⟩ ∧ (∃ b, wr.cell? ⟨g, k, none⟩ = some (.int .u8 b)) ∧ wr.frozen? ⟨g, k, none⟩ = false) ∧ (n1 ≤ maxLen ∧ n2 ≤ maxLen ∧ n3 ≤ maxLen) := by
  obtain ⟨ys, y, h1, h2, h3, ⟨e1, e2, e3⟩, l1, l2, l3⟩ := h.st
  have o := h1.ents y (List.mem_of_getElem? h3)
  have o1 := o.row
  have o2 := o.qual
  have o3 := o.val
  rw [e1, l1] at o1
  rw [e2, l2] at o2
  rw [e3, l3] at o3
  have cp : ∀ {u : Nat} {c : Nat} {a : Option Addr} {bs : List Nat}, Own wr N (.slice a u c) u bs → u ≤ maxLen := fun {u c a bs} q => by
    rcases q.2.2 with ⟨h1, h2⟩ | ⟨g, cap, cur, h1, _, _, h4, h5, _⟩
    · rw [h2]; exact Nat.zero_le _
    · exact Nat.le_trans h4 h5
  exact ⟨fun k hk => own_byte o1 hk, fun k hk => own_byte o2 hk, fun k hk => own_byte o3 hk, cp o1, cp o2, cp o3⟩
end
set_option maxRecDepth 100000 in
set_option maxHeartbeats 8000000 in
theorem spoil_any {W : World} {N : Nat} {v : Value} {xs : List EntD} {O : Nat → Prop} (h : Rw W N v xs O) (hO : ∀ i, O i → i < W.heap.size) (hN : N ≤ W.heap.size) (hs : ∀ x ∈ xs, Sml x ∧ ByE x.dat) (hl : xs.length ≤ 1353245080300) :
    Calls Tryz.prog 97 #[v] W fun r W' => r = .returned (.bool true) ∧ SpF W W' O := by
  obtain ⟨a, c, e2, -, rd⟩ := h.rdl (fun x hx => (hs x hx).2)
  subst e2
  have HC := Lib.hid (cloneAll_any rd (fun x hx => by have := (hs x hx).1; unfold Sml at this; unfold Shrt; omega) hl)
  have hcap := rd.cap
  unfold maxLen at hcap
  obtain ⟨n, hn⟩ : ∃ n, n = xs.length := ⟨_, rfl⟩
  have HRw := Lib.hid h
  rw [← hn] at HC HRw hcap hl ⊢
  have Hn := Lib.hid hn
  have HO := Lib.hid hO
  have HS := Lib.hid hs
  have HN := Lib.hid hN
  clear h hO hN hs rd hn
  go_enter Tryz.func97, Tryz.ntmps97
  go_wp2_with fail
  refine Calls.mono HC.out ?_
  rintro z W1 ⟨vz, zs, rfl, cl, dz⟩
  obtain ⟨az, cz, rfl⟩ := rows_form3 cl.row
  have zl : zs.length = n := by have := congrArg List.length dz; simp only [List.length_map] at this; rw [Hn.out]; exact this
  have HZ : Hid (∀ Z, SpF W1 Z O → RdL3 Z az cz zs) := fun Z f => by
    have r := cl.rw.keep (w' := Z) (fun i hi => f.block i hi.2 (fun o => by have := HO.out i o; have := hi.1; omega))
    obtain ⟨a', c', e, -, rd⟩ := r.rdl (fun x hx => by
      have m : x.dat ∈ xs.map EntD.dat := by rw [← dz]; exact List.mem_map_of_mem hx
      obtain ⟨y, hy, ey⟩ := List.mem_map.1 m
      rw [← ey]
      exact (HS.out y hy).2)
    simp only [Value.slice.injEq] at e
    obtain ⟨rfl, -, rfl⟩ := e
    exact rd
  have HB1 := Lib.hid (SpF.of_below O cl.below)
  have HS0 : Hid (Rw W1 N (.slice a n c) xs O ∧ SpF W1 W1 O) := ⟨HRw.out.keep (fun i hi => cl.below.block i (HO.out i hi)), SpF.refl _ _⟩
  have HDz := Lib.hid dz
  have HN1 : Hid (N ≤ W1.heap.size) := Nat.le_trans HN.out cl.below.size
  rw [zl]
  have HZl := Lib.hid zl
  clear HC cl dz zl HRw HN
  go_wp2
  go_loopw [4] (fun i wr => ∃ t : Nat, t ≤ n ∧ i = .int .i64 (t : Int) ∧ Hid (Rw wr N (.slice a n c) xs O ∧ SpF W1 wr O)) (fun i _ => n - (intOf i).toNat)
  case atStart => exact ⟨0, Nat.zero_le _, rfl, HS0.out⟩
  case round =>
    clear HS0
    obtain ⟨t, ht, rfl, HSt⟩ := hrel
    have t0 : (0 : Int) ≤ (t : Int) := by omega
    by_cases hlt : t < n
    · have hlt2 : (t : Int) < (n : Int) := by omega
      obtain ⟨x, hx⟩ : ∃ x, xs[t]? = some x := ⟨xs[t]'(by rw [← Hn.out]; exact hlt), List.getElem?_eq_getElem _⟩
      have xm := List.mem_of_getElem? hx
      have e3 := HSt.out.1.ents x xm
      obtain ⟨a1, c1, f1⟩ := own_form' e3.row
      obtain ⟨a2, c2, f2⟩ := own_form' e3.qual
      obtain ⟨a3, c3, f3⟩ := own_form' e3.val
      obtain ⟨gL, rfl⟩ : ∃ gL, a = some ⟨gL, 0, none⟩ := by
        have r := HSt.out.1.row
        rw [← Hn.out] at r
        rcases r.2 with ⟨r1, r2⟩ | ⟨gL, cap, cur, r1, -⟩
        · omega
        · simp only [Value.slice.injEq] at r1
          exact ⟨gL, r1.1⟩
      obtain ⟨m1, hm1⟩ : ∃ m, m = x.row.length := ⟨_, rfl⟩
      obtain ⟨m2, hm2⟩ : ∃ m, m = x.qual.length := ⟨_, rfl⟩
      obtain ⟨m3, hm3⟩ : ∃ m, m = x.val.length := ⟨_, rfl⟩
      have HCl : Hid (∀ Z, Rw Z N (.slice (some ⟨gL, 0, none⟩) n c) xs O → Z.cell? ⟨gL, t * 7, none⟩ = some (.slice a1 m1 c1) ∧ Z.cell? ⟨gL, t * 7 + 2, none⟩ = some (.slice a2 m2 c2) ∧ Z.cell? ⟨gL, t * 7 + 6, none⟩ = some (.slice a3 m3 c3)) := fun Z r => by
        have rr := r.row
        obtain ⟨gq, eg, -, -, hc⟩ := row_cells3 (by rw [Hn.out] at rr; exact rr) hx
        simp only [Option.some.injEq, Addr.mk.injEq] at eg
        obtain ⟨rfl, -, -⟩ := eg
        have c0 := hc 0 _ rfl
        have c2' := hc 2 _ rfl
        have c6 := hc 6 _ rfl
        simp only [Nat.add_zero] at c0
        rw [f1, ← hm1] at c0
        rw [f2, ← hm2] at c2'
        rw [f3, ← hm3] at c6
        exact ⟨c0, c2', c6⟩
      have sm := (HS.out x xm).1
      have HL : Hid (∀ Z, Rw Z N (.slice (some ⟨gL, 0, none⟩) n c) xs O → SpF W1 Z O → (Calls Tryz.prog 125 #[.slice a1 m1 c1] Z fun e w' => e = .returned (.bool true) ∧ Rw w' N (.slice (some ⟨gL, 0, none⟩) n c) xs O ∧ SpF W1 w' O) ∧ (Calls Tryz.prog 125 #[.slice a2 m2 c2] Z fun e w' => e = .returned (.bool true) ∧ Rw w' N (.slice (some ⟨gL, 0, none⟩) n c) xs O ∧ SpF W1 w' O) ∧ (Calls Tryz.prog 125 #[.slice a3 m3 c3] Z fun e w' => e = .returned (.bool true) ∧ Rw w' N (.slice (some ⟨gL, 0, none⟩) n c) xs O ∧ SpF W1 w' O)) := fun Z r f => by
        have o := r.ents x xm
        have hB : N ≤ Z.heap.size := Nat.le_trans HN1.out f.size
        have o1 := o.row
        have o2 := o.qual
        have o3 := o.val
        rw [f1, ← hm1] at o1
        rw [f2, ← hm2] at o2
        rw [f3, ← hm3] at o3
        refine ⟨(longer_any o1 hB (by rw [hm1]; exact sm.1)).mono ?_, (longer_any o2 hB (by rw [hm2]; exact sm.2.1)).mono ?_, (longer_any o3 hB (by rw [hm3]; exact sm.2.2)).mono ?_⟩
        · rintro e w' ⟨h1, h2, h3⟩
          rw [hm1, ← f1] at h2 h3
          exact ⟨h1, r.grow xm (.inl ⟨rfl, h2⟩) h3, f.grown h3 (fun k hk => r.entO x xm k (.inl hk))⟩
        · rintro e w' ⟨h1, h2, h3⟩
          rw [hm2, ← f2] at h2 h3
          exact ⟨h1, r.grow xm (.inr (.inl ⟨rfl, h2⟩)) h3, f.grown h3 (fun k hk => r.entO x xm k (.inr (.inl hk)))⟩
        · rintro e w' ⟨h1, h2, h3⟩
          rw [hm3, ← f3] at h2 h3
          exact ⟨h1, r.grow xm (.inr (.inr ⟨rfl, h2⟩)) h3, f.grown h3 (fun k hk => r.entO x xm k (.inr (.inr hk)))⟩
      have L1 := Lib.hid (HL.out _ HSt.out.1 HSt.out.2).1
      obtain ⟨k0, k2, k6⟩ := HCl.out _ HSt.out.1
      clear hx xm e3 f1 f2 f3 hm1 hm2 hm3 sm HSt
      go_wp2_with fail
      refine Calls.mono L1.out ?_
      rintro z2 Z1 ⟨rfl, r1, s1⟩
      have L2 := Lib.hid (HL.out _ r1 s1).2.1
      clear k0 k2 k6 L1
      obtain ⟨k0, k2, k6⟩ := HCl.out _ r1
      clear r1 s1
      go_wp2_with fail
      refine Calls.mono L2.out ?_
      rintro z3 Z2 ⟨rfl, r1, s1⟩
      have L3 := Lib.hid (HL.out _ r1 s1).2.2
      clear k0 k2 k6 L2
      obtain ⟨k0, k2, k6⟩ := HCl.out _ r1
      clear r1 s1
      go_wp2_with fail
      refine Calls.mono L3.out ?_
      rintro z4 Z3 ⟨rfl, r1, s1⟩
      have HSn : Hid (Rw Z3 N (.slice (some ⟨gL, 0, none⟩) n c) xs O ∧ SpF W1 Z3 O) := ⟨r1, s1⟩
      clear k0 k2 k6 L3 r1 s1
      go_wp2
      go_roundw
      case rel => exact ⟨t + 1, by omega, by go_num, HSn.out⟩
      case measure => simp only [intOf]; omega
    · have hge : ¬ (t : Int) < (n : Int) := by omega
      have HSm : Hid (Calls Tryz.prog 18 #[.slice a n c, .slice az n cz] wr fun e w' => e = .returned (.bool true) ∧ Below wr.heap.size wr w') := by
        obtain ⟨a', c', e, -, rd⟩ := HSt.out.1.rdl (fun x hx => (HS.out x hx).2)
        simp only [Value.slice.injEq] at e
        obtain ⟨rfl, -, rfl⟩ := e
        have q := sameAll_ok rd (HZ.out wr HSt.out.2) HDz.out.symm (by rw [← Hn.out]; exact hl)
        rw [← Hn.out, HZl.out] at q
        exact q
      go_wp2_with fail
      refine Calls.mono HSm.out ?_
      rintro z2 W2 ⟨rfl, b2⟩
      have HSo : Hid (So W N (.slice a n c) O n W2) := ⟨⟨xs, HSt.out.1.keep (fun i hi => b2.block i (Nat.lt_of_lt_of_le (HO.out i hi) (Nat.le_trans HB1.out.size HSt.out.2.size))), Hn.out.symm⟩, (HB1.out.trans HSt.out.2).below b2⟩
      clear HSm HSt b2 HZ HDz HZl
      go_wp2
      go_loopw [6, 7, 8, 9] (fun i _ _ _ wr => ∃ t : Nat, t ≤ n ∧ i = .int .i64 (t : Int) ∧ Hid (So W N (.slice a n c) O n wr)) (fun i _ _ _ _ => n - (intOf i).toNat)
      case atStart => exact ⟨0, Nat.zero_le _, rfl, HSo.out⟩
      case round =>
        clear HSo
        obtain ⟨t, ht, rfl, HSo⟩ := hrel
        have t0 : (0 : Int) ≤ (t : Int) := by omega
        by_cases hlt : t < n
        · have hlt2 : (t : Int) < (n : Int) := by omega
          obtain ⟨a1, a2, a3, c1, c2, c3, n1, n2, n3, hSi⟩ := HSo.out.at hlt
          obtain ⟨gL, rfl, -⟩ := hSi.cells
          obtain ⟨-, -, -, x1, x2, x3⟩ := hSi.byte
          unfold maxLen at x1 x2 x3
          have HCe : Hid (∀ Z, Si W N (.slice (some ⟨gL, 0, none⟩) n c) O n t (.slice a1 n1 c1) (.slice a2 n2 c2) (.slice a3 n3 c3) n1 n2 n3 Z → Z.cell? ⟨gL, t * 7, none⟩ = some (.slice a1 n1 c1) ∧ Z.cell? ⟨gL, t * 7 + 2, none⟩ = some (.slice a2 n2 c2) ∧ Z.cell? ⟨gL, t * 7 + 6, none⟩ = some (.slice a3 n3 c3) ∧ (∃ f, Z.cell? ⟨gL, t * 7 + 1, none⟩ = some (.int .i64 f)) ∧ Z.frozen? ⟨gL, t * 7 + 1, none⟩ = false) := fun Z q => by
            obtain ⟨g', e, h1, h2, h3, h4, h5⟩ := q.cells
            simp only [Option.some.injEq, Addr.mk.injEq] at e
            obtain ⟨rfl, -, -⟩ := e
            exact ⟨h1, h2, h3, h4, h5 _⟩
          have HI := Lib.hid hSi
          obtain ⟨k0, k2, k6, -, -⟩ := HCe.out _ hSi
          clear hSi HSo
          go_wp2
          go_loopw [7] (fun i wr => ∃ k : Nat, k ≤ n1 ∧ i = .int .i64 (k : Int) ∧ Hid (Si W N (.slice (some ⟨gL, 0, none⟩) n c) O n t (.slice a1 n1 c1) (.slice a2 n2 c2) (.slice a3 n3 c3) n1 n2 n3 wr)) (fun i _ => n1 - (intOf i).toNat)
          case atStart => exact ⟨0, Nat.zero_le _, rfl, HI.out⟩
          case round =>
            clear HI k0 k2 k6
            obtain ⟨k, hk, rfl, HI⟩ := hrel
            have q0 : (0 : Int) ≤ (k : Int) := by omega
            obtain ⟨k0, k2, k6, -, -⟩ := HCe.out _ HI.out
            by_cases hkn : k < n1
            · have hkn2 : (k : Int) < (n1 : Int) := by omega
              obtain ⟨gb, rfl, ⟨b0, cb⟩, fb⟩ := HI.out.byte.1 k hkn
              have HSt := Lib.hid (HI.out.row hkn 77)
              go_wp2
              go_roundw
              case rel => exact ⟨k + 1, by omega, by go_num, HSt.out⟩
              case measure => simp only [intOf]; omega
            · have hkg : ¬ (k : Int) < (n1 : Int) := by omega
              go_wp2
              go_loopw [8] (fun i wr => ∃ k : Nat, k ≤ n2 ∧ i = .int .i64 (k : Int) ∧ Hid (Si W N (.slice (some ⟨gL, 0, none⟩) n c) O n t (.slice a1 n1 c1) (.slice a2 n2 c2) (.slice a3 n3 c3) n1 n2 n3 wr)) (fun i _ => n2 - (intOf i).toNat)
              case atStart => exact ⟨0, Nat.zero_le _, rfl, HI.out⟩
              case round =>
                clear HI k0 k2 k6
                obtain ⟨k, hk, rfl, HI⟩ := hrel
                have q0 : (0 : Int) ≤ (k : Int) := by omega
                obtain ⟨k0, k2, k6, -, -⟩ := HCe.out _ HI.out
                by_cases hkn : k < n2
                · have hkn2 : (k : Int) < (n2 : Int) := by omega
                  obtain ⟨gb, rfl, ⟨b0, cb⟩, fb⟩ := HI.out.byte.2.1 k hkn
                  have HSt := Lib.hid (HI.out.qual hkn 78)
                  go_wp2
                  go_roundw
                  case rel => exact ⟨k + 1, by omega, by go_num, HSt.out⟩
                  case measure => simp only [intOf]; omega
                · have hkg : ¬ (k : Int) < (n2 : Int) := by omega
                  go_wp2
                  go_loopw [9] (fun i wr => ∃ k : Nat, k ≤ n3 ∧ i = .int .i64 (k : Int) ∧ Hid (Si W N (.slice (some ⟨gL, 0, none⟩) n c) O n t (.slice a1 n1 c1) (.slice a2 n2 c2) (.slice a3 n3 c3) n1 n2 n3 wr)) (fun i _ => n3 - (intOf i).toNat)
                  case atStart => exact ⟨0, Nat.zero_le _, rfl, HI.out⟩
                  case round =>
                    clear HI k0 k2 k6
                    obtain ⟨k, hk, rfl, HI⟩ := hrel
                    have q0 : (0 : Int) ≤ (k : Int) := by omega
                    obtain ⟨k0, k2, k6, -, -⟩ := HCe.out _ HI.out
                    by_cases hkn : k < n3
                    · have hkn2 : (k : Int) < (n3 : Int) := by omega
                      obtain ⟨gb, rfl, ⟨b0, cb⟩, fb⟩ := HI.out.byte.2.2.1 k hkn
                      have HSt := Lib.hid (HI.out.val hkn 79)
                      go_wp2
                      go_roundw
                      case rel => exact ⟨k + 1, by omega, by go_num, HSt.out⟩
                      case measure => simp only [intOf]; omega
                    · have hkg : ¬ (k : Int) < (n3 : Int) := by omega
                      obtain ⟨-, -, -, ⟨f0, k1⟩, fz⟩ := HCe.out _ HI.out
                      have HSn := Lib.hid (HI.out.fam rfl (-5))
                      go_wp2
                      go_roundw
                      case rel => exact ⟨t + 1, by omega, by go_num, HSn.out⟩
                      case measure => simp only [intOf]; omega
        · have hge2 : ¬ (t : Int) < (n : Int) := by omega
          go_wp2
          go_ret
          exact ⟨rfl, HSo.out.fr⟩
end Go.Proofs.YthhkpkfpifllkaaGreat

namespace Go.Proofs.YthhkpkfpifllkaaGreat
open Go.RowKit
set_option linter.unusedVariables false

section
variable {w w' : World} {q : Nat} {pf pr : Option Addr} {vi vo : Value} {la : EntD} {has : Bool} {ct : Ct}
theorem FlBx.keep (h : FlBx w q pf pr vi vo la has ct) (k : w'.heap[q]? = w.heap[q]?) : FlBx w' q pf pr vi vo la has ct := k.trans h
theorem FlBx.lt (h : FlBx w q pf pr vi vo la has ct) : q < w.heap.size := (Array.getElem?_eq_some_iff.1 h).1
theorem FlBx.later (h : FlBx w q pf pr vi vo la has ct) (b : Below w.heap.size w w') : FlBx w' q pf pr vi vo la has ct := h.keep (b.block q h.lt)
theorem FlBx.fz (h : FlBx w q pf pr vi vo la has ct) (i : Nat) : w.frozen? ⟨q, i, none⟩ = false := by unfold FlBx at h; simp [World.frozen?, h]
theorem FlBx.c0 (h : FlBx w q pf pr vi vo la has ct) : w.cell? ⟨q, 0, none⟩ = some (.pointer pf) := cell_at9 h rfl
theorem FlBx.c1 (h : FlBx w q pf pr vi vo la has ct) : w.cell? ⟨q, 1, none⟩ = some (.pointer pr) := cell_at9 h rfl
theorem FlBx.c2 (h : FlBx w q pf pr vi vo la has ct) : w.cell? ⟨q, 2, none⟩ = some (vi) := cell_at9 h rfl
theorem FlBx.c3 (h : FlBx w q pf pr vi vo la has ct) : w.cell? ⟨q, 3, none⟩ = some (vo) := cell_at9 h rfl
theorem FlBx.c4 (h : FlBx w q pf pr vi vo la has ct) : w.cell? ⟨q, 4, none⟩ = some (la.vr) := cell_at9 h rfl
theorem FlBx.c5 (h : FlBx w q pf pr vi vo la has ct) : w.cell? ⟨q, 5, none⟩ = some (.int .i64 la.fam) := cell_at9 h rfl
theorem FlBx.c6 (h : FlBx w q pf pr vi vo la has ct) : w.cell? ⟨q, 6, none⟩ = some (la.vq) := cell_at9 h rfl
theorem FlBx.c7 (h : FlBx w q pf pr vi vo la has ct) : w.cell? ⟨q, 7, none⟩ = some (.int .i64 la.ts) := cell_at9 h rfl
theorem FlBx.c8 (h : FlBx w q pf pr vi vo la has ct) : w.cell? ⟨q, 8, none⟩ = some (.int .i64 la.seq) := cell_at9 h rfl
theorem FlBx.c9 (h : FlBx w q pf pr vi vo la has ct) : w.cell? ⟨q, 9, none⟩ = some (.int .i64 la.kind) := cell_at9 h rfl
theorem FlBx.c10 (h : FlBx w q pf pr vi vo la has ct) : w.cell? ⟨q, 10, none⟩ = some (la.vv) := cell_at9 h rfl
theorem FlBx.c11 (h : FlBx w q pf pr vi vo la has ct) : w.cell? ⟨q, 11, none⟩ = some (.bool has) := cell_at9 h rfl
theorem FlBx.c12 (h : FlBx w q pf pr vi vo la has ct) : w.cell? ⟨q, 12, none⟩ = some (.int .i64 ct.o) := cell_at9 h rfl
theorem FlBx.c13 (h : FlBx w q pf pr vi vo la has ct) : w.cell? ⟨q, 13, none⟩ = some (.int .i64 ct.m) := cell_at9 h rfl
theorem FlBx.c14 (h : FlBx w q pf pr vi vo la has ct) : w.cell? ⟨q, 14, none⟩ = some (.int .i64 ct.x) := cell_at9 h rfl
theorem FlBx.c15 (h : FlBx w q pf pr vi vo la has ct) : w.cell? ⟨q, 15, none⟩ = some (.int .i64 ct.a) := cell_at9 h rfl
theorem FlBx.c16 (h : FlBx w q pf pr vi vo la has ct) : w.cell? ⟨q, 16, none⟩ = some (.int .i64 ct.k) := cell_at9 h rfl
theorem FlBx.setIn (h : FlBx w q pf pr vi vo la has ct) (u : Value) : FlBx (w.setCell ⟨q, 2, none⟩ (u)) q pf pr u vo la has ct := by unfold FlBx at *; simp [World.setCell, Array.getElem?_modify, h]
theorem FlBx.setOut (h : FlBx w q pf pr vi vo la has ct) (u : Value) : FlBx (w.setCell ⟨q, 3, none⟩ (u)) q pf pr vi u la has ct := by unfold FlBx at *; simp [World.setCell, Array.getElem?_modify, h]
theorem FlBx.setHas (h : FlBx w q pf pr vi vo la has ct) (b : Bool) : FlBx (w.setCell ⟨q, 11, none⟩ (.bool b)) q pf pr vi vo la b ct := by unfold FlBx at *; simp [World.setCell, Array.getElem?_modify, h]
theorem FlBx.set_o (h : FlBx w q pf pr vi vo la has ct) (z : Int) : FlBx (w.setCell ⟨q, 12, none⟩ (.int .i64 z)) q pf pr vi vo la has { ct with o := z } := by unfold FlBx at *; simp [World.setCell, Array.getElem?_modify, h]
theorem FlBx.set_m (h : FlBx w q pf pr vi vo la has ct) (z : Int) : FlBx (w.setCell ⟨q, 13, none⟩ (.int .i64 z)) q pf pr vi vo la has { ct with m := z } := by unfold FlBx at *; simp [World.setCell, Array.getElem?_modify, h]
theorem FlBx.set_x (h : FlBx w q pf pr vi vo la has ct) (z : Int) : FlBx (w.setCell ⟨q, 14, none⟩ (.int .i64 z)) q pf pr vi vo la has { ct with x := z } := by unfold FlBx at *; simp [World.setCell, Array.getElem?_modify, h]
theorem FlBx.set_a (h : FlBx w q pf pr vi vo la has ct) (z : Int) : FlBx (w.setCell ⟨q, 15, none⟩ (.int .i64 z)) q pf pr vi vo la has { ct with a := z } := by unfold FlBx at *; simp [World.setCell, Array.getElem?_modify, h]
theorem FlBx.set_k (h : FlBx w q pf pr vi vo la has ct) (z : Int) : FlBx (w.setCell ⟨q, 16, none⟩ (.int .i64 z)) q pf pr vi vo la has { ct with k := z } := by unfold FlBx at *; simp [World.setCell, Array.getElem?_modify, h]
theorem FlBx.setLast (h : FlBx w q pf pr vi vo la has ct) (x : EntD) : FlBx (((((((w.setCell ⟨q, 4, none⟩ x.vr).setCell ⟨q, 5, none⟩ (.int .i64 x.fam)).setCell ⟨q, 6, none⟩ x.vq).setCell ⟨q, 7, none⟩ (.int .i64 x.ts)).setCell ⟨q, 8, none⟩ (.int .i64 x.seq)).setCell ⟨q, 9, none⟩ (.int .i64 x.kind)).setCell ⟨q, 10, none⟩ x.vv) q pf pr vi vo x has ct := by unfold FlBx at *; simp [World.setCell, Array.getElem?_modify, h]
end
end Go.Proofs.YthhkpkfpifllkaaGreat

namespace Go.Proofs.YthhkpkfpifllkaaGreat
open Go.RowKit
set_option linter.unusedVariables false

def FlP (q wb rb : Nat) (fv : Value) (s : SpD) (la : EntD) (Oi Oo : Nat → Prop) (i : Nat) : Prop := i = q ∨ Its wb rb fv s i ∨ Oi i ∨ Oo i ∨ EBl la i
structure Fm (B wb g rb q : Nat) (fv : Value) (fs : List FamD) (clock : Int) (T : List En → World → (Nat → Prop) → List Vd → Prop) (pf pr : Option Addr) (W : World) (ins outs : List EntD) (la : EntD) (has : Bool) (ct : Ct) (vi vo : Value) (s : SpD) (hd : List En) (vs : List Vd) (Oi Oo : Nat → Prop) : Prop where
  box : FlBx W q pf pr vi vo la has ct
  rest : Rest B wb g rb fv fs clock (T hd) W s vs
  rin : Rw W B vi ins Oi
  rout : Rw W B vo outs Oo
  rla : O3 W B la
  lo : B ≤ q ∧ B ≤ wb ∧ B ≤ rb
  lt : ∀ i, Oi i ∨ Oo i → B ≤ i ∧ i < W.heap.size
  aq : ¬ Its wb rb fv s q ∧ ¬ Oi q ∧ ¬ Oo q ∧ ¬ EBl la q
  aI : ∀ i, Its wb rb fv s i → ¬ Oi i ∧ ¬ Oo i ∧ ¬ EBl la i
  ai : ∀ i, Oi i → ¬ Oo i ∧ ¬ EBl la i
  ao : ∀ i, Oo i → ¬ EBl la i
section
variable {B wb g rb q : Nat} {fv : Value} {fs : List FamD} {clock : Int} {T : List En → World → (Nat → Prop) → List Vd → Prop} {pf pr : Option Addr} {W W' : World} {ins outs : List EntD} {la : EntD} {has : Bool} {ct : Ct} {vi vo : Value} {s s' : SpD} {hd : List En} {vs vs' : List Vd} {Oi Oo : Nat → Prop}
theorem Fm.inlt (H : Hands g rb B (.pointer (some ⟨wb, 0, none⟩)) T) (h : Fm B wb g rb q fv fs clock T pf pr W ins outs la has ct vi vo s hd vs Oi Oo) (i : Nat) (hi : FlP q wb rb fv s la Oi Oo i) : B ≤ i ∧ i < W.heap.size := by
  rcases hi with rfl | hi | hi | hi | hi
  · exact ⟨h.lo.1, h.box.lt⟩
  · refine ⟨?_, h.rest.lt (H.tl hd) i hi⟩
    rcases hi with rfl | rfl | hi | hi
    · exact h.lo.2.1
    · exact h.lo.2.2
    · exact (h.rest.wk.lastlt i hi).1
    · obtain ⟨a, c, e1, ho⟩ := h.rest.fam
      rw [e1] at hi
      exact (ho.2.lt i hi).1
  · exact h.lt i (.inl hi)
  · exact h.lt i (.inr hi)
  · exact h.rla.lt i hi
theorem Fm.keep (H : Hands g rb B (.pointer (some ⟨wb, 0, none⟩)) T) (h : Fm B wb g rb q fv fs clock T pf pr W ins outs la has ct vi vo s hd vs Oi Oo) (hs : W.heap.size ≤ W'.heap.size) (hm : ∀ i, FlP q wb rb fv s la Oi Oo i → W'.heap[i]? = W.heap[i]?) : Fm B wb g rb q fv fs clock T pf pr W' ins outs la has ct vi vo s hd vs Oi Oo :=
  ⟨h.box.keep (hm q (.inl rfl)), h.rest.keep (H.tl hd) hs (fun i hi => hm i (.inr (.inl hi))), h.rin.keep (fun i hi => hm i (.inr (.inr (.inl hi)))), h.rout.keep (fun i hi => hm i (.inr (.inr (.inr (.inl hi))))), h.rla.keepO (fun i hi => hm i (.inr (.inr (.inr (.inr hi))))), h.lo, fun i hi => ⟨(h.lt i hi).1, Nat.lt_of_lt_of_le (h.lt i hi).2 hs⟩, h.aq, h.aI, h.ai, h.ao⟩
theorem Fm.later (H : Hands g rb B (.pointer (some ⟨wb, 0, none⟩)) T) (h : Fm B wb g rb q fv fs clock T pf pr W ins outs la has ct vi vo s hd vs Oi Oo) (b : Below W.heap.size W W') : Fm B wb g rb q fv fs clock T pf pr W' ins outs la has ct vi vo s hd vs Oi Oo :=
  h.keep H b.size (fun i hi => b.block i (h.inlt H i hi).2)
theorem Fm.step (H : Hands g rb B (.pointer (some ⟨wb, 0, none⟩)) T) (h : Fm B wb g rb q fv fs clock T pf pr W ins outs la has ct vi vo s hd vs Oi Oo) {v : Value} {xs : List EntD} {Or : Nat → Prop} (st : Step B wb g rb B fv fs clock T hd W W' s s' v xs Or vs') : Fm B wb g rb q fv fs clock T pf pr W' ins outs la has ct vi vo s' (hd ++ xs.map EntD.dat) vs' Oi Oo := by
  have nx : ∀ i, i < W.heap.size → ¬ Its wb rb fv s i → ¬ Its wb rb fv s' i := fun i hi hn hI => (st.its i hI).elim hn (fun z => absurd hi (Nat.not_lt.2 z))
  have kI : ∀ i, Oi i → ¬ Its wb rb fv s i := fun i hi hI => (h.aI i hI).1 hi
  have kO : ∀ i, Oo i → ¬ Its wb rb fv s i := fun i hi hI => (h.aI i hI).2.1 hi
  have kL : ∀ i, EBl la i → ¬ Its wb rb fv s i := fun i hi hI => (h.aI i hI).2.2 hi
  have lI : ∀ i, Oi i → i < W.heap.size := fun i hi => (h.lt i (.inl hi)).2
  have lO : ∀ i, Oo i → i < W.heap.size := fun i hi => (h.lt i (.inr hi)).2
  have lL : ∀ i, EBl la i → i < W.heap.size := fun i hi => (h.rla.lt i hi).2
  refine ⟨h.box.keep (st.block q h.box.lt h.aq.1), st.rest, h.rin.keep (fun i hi => st.block i (lI i hi) (kI i hi)), h.rout.keep (fun i hi => st.block i (lO i hi) (kO i hi)), h.rla.keepO (fun i hi => st.block i (lL i hi) (kL i hi)), h.lo, fun i hi => ⟨(h.lt i hi).1, Nat.lt_of_lt_of_le (h.lt i hi).2 st.size⟩, ⟨nx q h.box.lt h.aq.1, h.aq.2⟩, fun i hi => ?_, h.ai, h.ao⟩
  exact ⟨fun z => nx i (lI i z) (kI i z) hi, fun z => nx i (lO i z) (kO i z) hi, fun z => nx i (lL i z) (kL i z) hi⟩
theorem FlP.step {la : EntD} {i : Nat} (h : FlP q wb rb fv s' la Oi Oo i) (st : ∀ i, Its wb rb fv s' i → Its wb rb fv s i ∨ W.heap.size ≤ i) : FlP q wb rb fv s la Oi Oo i ∨ W.heap.size ≤ i := by
  rcases h with h | h | h | h | h
  · exact .inl (.inl h)
  · exact (st i h).imp (fun z => .inr (.inl z)) id
  · exact .inl (.inr (.inr (.inl h)))
  · exact .inl (.inr (.inr (.inr (.inl h))))
  · exact .inl (.inr (.inr (.inr (.inr h))))
theorem Rw.join {w0 : Nat} {v u : Value} {xs zs : List EntD} {O : Nat → Prop} {W2 : World} (h : Rw W B v xs O) (hO : ∀ i, O i → i < w0) (hz : ∀ z ∈ zs, O3 W w0 z) (hp : zs.Pairwise Dsj) (hB : B ≤ w0) (hr : W2.ownsRow B 84 7 u (xs ++ zs).length (evals (xs ++ zs))) (g : W.grownBy W2 v.ownBlock) (hu : ∀ k, u.ownBlock = some k → v.ownBlock = some k ∨ W.heap.size ≤ k) (hw : w0 ≤ W.heap.size) : Rw W2 B u (xs ++ zs) (fun i => O i ∨ (w0 ≤ i ∧ i < W2.heap.size)) := by
  have ku := row_ku (W := W) h.row g
  refine ⟨hr, fun x hx => ?_, ?_, fun k hk => ?_, fun x hx k hk => ?_⟩
  · rcases List.mem_append.1 hx with z | z
    · exact (h.ents x z).ku ku
    · exact ((hz x z).ku ku).low hB
  · refine List.pairwise_append.2 ⟨h.ap, hp, fun x hx y hy k h1 h2 => ?_⟩
    have a1 := hO k (h.entO x hx k h1)
    have a2 := ((hz y hy).lt k h2).1
    omega
  · rcases hu k hk with z | z
    · exact .inl (h.rowO k z)
    · exact .inr ⟨Nat.le_trans hw z, (hr.lt k hk).2⟩
  · rcases List.mem_append.1 hx with z | z
    · exact .inl (h.entO x z k hk)
    · have a2 := (hz x z).lt k hk
      exact .inr ⟨a2.1, Nat.lt_of_lt_of_le a2.2 g.size⟩
theorem Fm.putOut (H : Hands g rb B (.pointer (some ⟨wb, 0, none⟩)) T) (h : Fm B wb g rb q fv fs clock T pf pr W ins outs la has ct vi vo s hd vs Oi Oo) {w0 : Nat} {zs : List EntD} {u : Value} {W2 : World} (hP : ∀ i, FlP q wb rb fv s la Oi Oo i → i < w0) (hz : ∀ z ∈ zs, O3 W w0 z) (hp : zs.Pairwise Dsj) (hw : w0 ≤ W.heap.size) (hr : W2.ownsRow B 84 7 u (outs ++ zs).length (evals (outs ++ zs))) (gr : W.grownBy W2 vo.ownBlock) (hu : ∀ k, u.ownBlock = some k → vo.ownBlock = some k ∨ W.heap.size ≤ k) : Fm B wb g rb q fv fs clock T pf pr (W2.setCell ⟨q, 3, none⟩ u) ins (outs ++ zs) la has ct vi u s hd vs Oi (fun i => Oo i ∨ (w0 ≤ i ∧ i < W2.heap.size)) ∧ SpF W (W2.setCell ⟨q, 3, none⟩ u) (FlP q wb rb fv s la Oi Oo) := by
  have hB : B ≤ w0 := by have := hP q (.inl rfl); have := h.lo.1; omega
  have rw2 := h.rout.join (fun i hi => hP i (.inr (.inr (.inr (.inl hi))))) hz hp hB hr gr hu hw
  have g2 := grown1 W2 q 3 u
  have sz : W.heap.size ≤ (W2.setCell ⟨q, 3, none⟩ u).heap.size := Nat.le_trans gr.size g2.size
  have st : ∀ i, i < W.heap.size → i ≠ q → ¬ Oo i → (W2.setCell ⟨q, 3, none⟩ u).heap[i]? = W.heap[i]? := fun i hi h1 h2 => by
    have a := gr.block i hi (fun z => h2 (h.rout.rowO i z.symm))
    exact (g2.block i (Nat.lt_of_lt_of_le hi gr.size) (fun z => h1 (Option.some.inj z))).trans a
  have nq : ¬ (Oo q ∨ (w0 ≤ q ∧ q < W2.heap.size)) := fun z => z.elim h.aq.2.2.1 (fun z => by have := hP q (.inl rfl); omega)
  have old : ∀ i, FlP q wb rb fv s la Oi Oo i → ¬ (w0 ≤ i ∧ i < W2.heap.size) := fun i hi z => by have := hP i hi; omega
  have bx2 : FlBx W2 q pf pr vi vo la has ct := h.box.keep (gr.block q h.box.lt (fun z => h.aq.2.2.1 (h.rout.rowO q z.symm)))
  have sz2 : (W2.setCell ⟨q, 3, none⟩ u).heap.size = W2.heap.size := by simp
  refine ⟨⟨bx2.setOut u, h.rest.keep (H.tl hd) sz (fun i hi => st i (h.rest.lt (H.tl hd) i hi) (fun z => h.aq.1 (z ▸ hi)) (h.aI i hi).2.1), h.rin.keep (fun i hi => st i (h.lt i (.inl hi)).2 (fun z => h.aq.2.1 (z ▸ hi)) (h.ai i hi).1), rw2.keep (fun i hi => ?_), h.rla.keepO (fun i hi => st i (h.rla.lt i hi).2 (fun z => h.aq.2.2.2 (z ▸ hi)) (fun z => h.ao i z hi)), h.lo, fun i hi => ?_, ⟨h.aq.1, h.aq.2.1, nq, h.aq.2.2.2⟩, fun i hi => ⟨(h.aI i hi).1, fun z => z.elim (h.aI i hi).2.1 (old i (.inr (.inl hi))), (h.aI i hi).2.2⟩, fun i hi => ⟨fun z => z.elim (h.ai i hi).1 (old i (.inr (.inr (.inl hi)))), (h.ai i hi).2⟩, fun i hi z => hi.elim (fun y => h.ao i y z) (fun y => old i (.inr (.inr (.inr (.inr z)))) y)⟩, gr.os, gr.tape, gr.output, sz, fun i hi hn => st i hi (fun z => hn (.inl z)) (fun z => hn (.inr (.inr (.inr (.inl z)))))⟩
  · have hlt : i < W2.heap.size := hi.elim (fun z => Nat.lt_of_lt_of_le (h.lt i (.inr z)).2 gr.size) (fun z => z.2)
    exact g2.block i hlt (fun z => nq ((Option.some.inj z) ▸ hi))
  · rw [sz2]
    rcases hi with z | z | z
    · exact ⟨(h.lt i (.inl z)).1, Nat.lt_of_lt_of_le (h.lt i (.inl z)).2 gr.size⟩
    · exact ⟨(h.lt i (.inr z)).1, Nat.lt_of_lt_of_le (h.lt i (.inr z)).2 gr.size⟩
    · exact ⟨Nat.le_trans hB z.1, z.2⟩
theorem Fm.putIn (H : Hands g rb B (.pointer (some ⟨wb, 0, none⟩)) T) (h : Fm B wb g rb q fv fs clock T pf pr W ins outs la has ct vi vo s hd vs Oi Oo) {w0 : Nat} {zs : List EntD} {u : Value} {W2 : World} (hP : ∀ i, FlP q wb rb fv s la Oi Oo i → i < w0) (hz : ∀ z ∈ zs, O3 W w0 z) (hp : zs.Pairwise Dsj) (hw : w0 ≤ W.heap.size) (hr : W2.ownsRow B 84 7 u (ins ++ zs).length (evals (ins ++ zs))) (gr : W.grownBy W2 vi.ownBlock) (hu : ∀ k, u.ownBlock = some k → vi.ownBlock = some k ∨ W.heap.size ≤ k) : Fm B wb g rb q fv fs clock T pf pr (W2.setCell ⟨q, 2, none⟩ u) (ins ++ zs) outs la has ct u vo s hd vs (fun i => Oi i ∨ (w0 ≤ i ∧ i < W2.heap.size)) Oo ∧ SpF W (W2.setCell ⟨q, 2, none⟩ u) (FlP q wb rb fv s la Oi Oo) := by
  have hB : B ≤ w0 := by have := hP q (.inl rfl); have := h.lo.1; omega
  have rw2 := h.rin.join (fun i hi => hP i (.inr (.inr (.inl hi)))) hz hp hB hr gr hu hw
  have g2 := grown1 W2 q 2 u
  have sz : W.heap.size ≤ (W2.setCell ⟨q, 2, none⟩ u).heap.size := Nat.le_trans gr.size g2.size
  have st : ∀ i, i < W.heap.size → i ≠ q → ¬ Oi i → (W2.setCell ⟨q, 2, none⟩ u).heap[i]? = W.heap[i]? := fun i hi h1 h2 => by
    have a := gr.block i hi (fun z => h2 (h.rin.rowO i z.symm))
    exact (g2.block i (Nat.lt_of_lt_of_le hi gr.size) (fun z => h1 (Option.some.inj z))).trans a
  have nq : ¬ (Oi q ∨ (w0 ≤ q ∧ q < W2.heap.size)) := fun z => z.elim h.aq.2.1 (fun z => by have := hP q (.inl rfl); omega)
  have old : ∀ i, FlP q wb rb fv s la Oi Oo i → ¬ (w0 ≤ i ∧ i < W2.heap.size) := fun i hi z => by have := hP i hi; omega
  have bx2 : FlBx W2 q pf pr vi vo la has ct := h.box.keep (gr.block q h.box.lt (fun z => h.aq.2.1 (h.rin.rowO q z.symm)))
  have sz2 : (W2.setCell ⟨q, 2, none⟩ u).heap.size = W2.heap.size := by simp
  refine ⟨⟨bx2.setIn u, h.rest.keep (H.tl hd) sz (fun i hi => st i (h.rest.lt (H.tl hd) i hi) (fun z => h.aq.1 (z ▸ hi)) (h.aI i hi).1), rw2.keep (fun i hi => ?_), h.rout.keep (fun i hi => st i (h.lt i (.inr hi)).2 (fun z => h.aq.2.2.1 (z ▸ hi)) (fun z => (h.ai i z).1 hi)), h.rla.keepO (fun i hi => st i (h.rla.lt i hi).2 (fun z => h.aq.2.2.2 (z ▸ hi)) (fun z => (h.ai i z).2 hi)), h.lo, fun i hi => ?_, ⟨h.aq.1, nq, h.aq.2.2⟩, fun i hi => ⟨fun z => z.elim (h.aI i hi).1 (old i (.inr (.inl hi))), (h.aI i hi).2⟩, fun i hi => ⟨fun z => hi.elim (fun y => (h.ai i y).1 z) (fun y => old i (.inr (.inr (.inr (.inl z)))) y), fun z => hi.elim (fun y => (h.ai i y).2 z) (fun y => old i (.inr (.inr (.inr (.inr z)))) y)⟩, h.ao⟩, gr.os, gr.tape, gr.output, sz, fun i hi hn => st i hi (fun z => hn (.inl z)) (fun z => hn (.inr (.inr (.inl z))))⟩
  · have hlt : i < W2.heap.size := hi.elim (fun z => Nat.lt_of_lt_of_le (h.lt i (.inl z)).2 gr.size) (fun z => z.2)
    exact g2.block i hlt (fun z => nq ((Option.some.inj z) ▸ hi))
  · rw [sz2]
    rcases hi with (z | z) | z
    · exact ⟨(h.lt i (.inl z)).1, Nat.lt_of_lt_of_le (h.lt i (.inl z)).2 gr.size⟩
    · exact ⟨Nat.le_trans hB z.1, z.2⟩
    · exact ⟨(h.lt i (.inr z)).1, Nat.lt_of_lt_of_le (h.lt i (.inr z)).2 gr.size⟩
theorem Fm.boxed (H : Hands g rb B (.pointer (some ⟨wb, 0, none⟩)) T) (h : Fm B wb g rb q fv fs clock T pf pr W ins outs la has ct vi vo s hd vs Oi Oo) {has' : Bool} {ct' : Ct} (hb : FlBx W' q pf pr vi vo la has' ct') (gr : W.grownBy W' (some q)) : Fm B wb g rb q fv fs clock T pf pr W' ins outs la has' ct' vi vo s hd vs Oi Oo := by
  have st : ∀ i, i < W.heap.size → i ≠ q → W'.heap[i]? = W.heap[i]? := fun i hi h1 => gr.block i hi (fun z => h1 (Option.some.inj z))
  exact ⟨hb, h.rest.keep (H.tl hd) gr.size (fun i hi => st i (h.rest.lt (H.tl hd) i hi) (fun z => h.aq.1 (z ▸ hi))), h.rin.keep (fun i hi => st i (h.lt i (.inl hi)).2 (fun z => h.aq.2.1 (z ▸ hi))), h.rout.keep (fun i hi => st i (h.lt i (.inr hi)).2 (fun z => h.aq.2.2.1 (z ▸ hi))), h.rla.keepO (fun i hi => st i (h.rla.lt i hi).2 (fun z => h.aq.2.2.2 (z ▸ hi))), h.lo, fun i hi => ⟨(h.lt i hi).1, Nat.lt_of_lt_of_le (h.lt i hi).2 gr.size⟩, h.aq, h.aI, h.ai, h.ao⟩
theorem Fm.putLast (H : Hands g rb B (.pointer (some ⟨wb, 0, none⟩)) T) (h : Fm B wb g rb q fv fs clock T pf pr W ins outs la has ct vi vo s hd vs Oi Oo) {x : EntD} {has' : Bool} {w0 : Nat} (hP : ∀ i, FlP q wb rb fv s la Oi Oo i → i < w0) (hx : O3 W w0 x) (hB : B ≤ w0) (hb : FlBx W' q pf pr vi vo x has' ct) (gr : W.grownBy W' (some q)) : Fm B wb g rb q fv fs clock T pf pr W' ins outs x has' ct vi vo s hd vs Oi Oo := by
  have st : ∀ i, i < W.heap.size → i ≠ q → W'.heap[i]? = W.heap[i]? := fun i hi h1 => gr.block i hi (fun z => h1 (Option.some.inj z))
  have nw : ∀ i, FlP q wb rb fv s la Oi Oo i → ¬ EBl x i := fun i hi z => by have := hP i hi; have := (hx.lt i z).1; omega
  exact ⟨hb, h.rest.keep (H.tl hd) gr.size (fun i hi => st i (h.rest.lt (H.tl hd) i hi) (fun z => h.aq.1 (z ▸ hi))), h.rin.keep (fun i hi => st i (h.lt i (.inl hi)).2 (fun z => h.aq.2.1 (z ▸ hi))), h.rout.keep (fun i hi => st i (h.lt i (.inr hi)).2 (fun z => h.aq.2.2.1 (z ▸ hi))), (hx.low hB).keepO (fun i hi => st i (hx.lt i hi).2 (fun z => nw q (.inl rfl) (z ▸ hi))), h.lo, fun i hi => ⟨(h.lt i hi).1, Nat.lt_of_lt_of_le (h.lt i hi).2 gr.size⟩, ⟨h.aq.1, h.aq.2.1, h.aq.2.2.1, nw q (.inl rfl)⟩, fun i hi => ⟨(h.aI i hi).1, (h.aI i hi).2.1, nw i (.inr (.inl hi))⟩, fun i hi => ⟨(h.ai i hi).1, nw i (.inr (.inr (.inl hi)))⟩, fun i hi => nw i (.inr (.inr (.inr (.inl hi))))⟩
theorem Fm.reset (H : Hands g rb B (.pointer (some ⟨wb, 0, none⟩)) T) (h : Fm B wb g rb q fv fs clock T pf pr W ins outs la has ct vi vo s hd vs Oi Oo) {ct' : Ct} (hb : FlBx W' q pf pr (.slice none 0 0) (.slice none 0 0) entZ false ct') (gr : W.grownBy W' (some q)) : Fm B wb g rb q fv fs clock T pf pr W' [] [] entZ false ct' (.slice none 0 0) (.slice none 0 0) s hd vs (fun _ => False) (fun _ => False) := by
  have st : ∀ i, i < W.heap.size → i ≠ q → W'.heap[i]? = W.heap[i]? := fun i hi h1 => gr.block i hi (fun z => h1 (Option.some.inj z))
  have nz : ∀ i, ¬ EBl entZ i := fun i z => by rcases z with z | z | z <;> cases z
  exact ⟨hb, h.rest.keep (H.tl hd) gr.size (fun i hi => st i (h.rest.lt (H.tl hd) i hi) (fun z => h.aq.1 (z ▸ hi))), Rw.nil _ _ _, Rw.nil _ _ _, ⟨ownNil _ _, ownNil _ _, ownNil _ _, (fun k hk => by cases hk), (fun k hk => by cases hk), (fun k hk => by cases hk)⟩, h.lo, fun i hi => hi.elim False.elim False.elim, ⟨h.aq.1, id, id, nz q⟩, fun i hi => ⟨id, id, nz i⟩, fun i hi => hi.elim, fun i hi => hi.elim⟩
end
end Go.Proofs.YthhkpkfpifllkaaGreat

namespace Go.Proofs.YthhkpkfpifllkaaGreat
open Go.RowKit Go.Maps
set_option linter.unusedVariables false

def orNone (E : Int) (D : List En) : List En := if E = 0 then D else []
section
variable {W : World} {cap fc : Nat} {a fa : Option Addr} {fs : List FamD} {l : List EntD} {m : List En} {E : Int}
variable (hr : RdF W (.slice fa fs.length fc) fs) (hn : fa = none → fc = 0) (C : Nat) (hC : (C = 0 ↔ SchemaOk fs) ∧ (C = 0 ∨ C = 28)) (clock t n low : Int) (major : Bool)
include hr hC
include hn
end
end Go.Proofs.YthhkpkfpifllkaaGreat

namespace Go.Proofs.YthhkpkfpifllkaaGreat
open Go.RowKit Go.Maps
set_option linter.unusedVariables false

structure AskD where
  k : Int
  fa : Option Addr
  fc : Nat
  fs : List FamD
  clock : Int
  t : Int
  n : Int
  major : Bool
  la : Option Addr
  lc : Nat
  l : List EntD
def AskD.cells (o : AskD) : List Value := [.int .i64 o.k, .slice o.fa o.fs.length o.fc, .int .i64 o.clock, .int .i64 o.t, .int .i64 o.n, .bool o.major, .slice o.la o.l.length o.lc]
def AskD.Ok (w : World) (o : AskD) : Prop := RdF w (.slice o.fa o.fs.length o.fc) o.fs ∧ (o.fa = none → o.fc = 0) ∧ RdL3 w o.la o.lc o.l ∧ o.l.length ≤ 1353245080300 ∧ ∀ x ∈ o.l, ShrtW x
def RdA (w : World) (v : Value) (os : List AskD) : Prop :=
  os.length ≤ 281474976710656 ∧ ∃ a cap, v = .slice a os.length cap ∧ (os = [] ∨ ∃ b off, a = some ⟨b, off, none⟩ ∧ ∀ i o, os[i]? = some o → (∀ j x, o.cells[j]? = some x → w.cell? ⟨b, off + i * 7 + j, none⟩ = some x) ∧ AskD.Ok w o)
theorem schema_c (fs : List FamD) : ∃ C : Nat, (C = 0 ↔ SchemaOk fs) ∧ (C = 0 ∨ C = 28) := by
  by_cases h : SchemaOk fs
  · exact ⟨0, ⟨fun _ => h, fun _ => rfl⟩, .inl rfl⟩
  · exact ⟨28, ⟨(fun z => by cases z), fun z => absurd z h⟩, .inr rfl⟩
def RdL3E (w : World) (v : Value) (zs : List EntD) : Prop := ∃ a c, v = .slice a zs.length c ∧ RdL3 w a c zs
def Both (f g : Nat) (xs ys : Array Value) (W : World) : Prop :=
  ∃ (E : Int) (D : List En), D.length ≤ 1353245080300 ∧ (∀ Z, Below W.heap.size W Z → Calls Tryz.prog f xs Z fun r W' => ∃ v zs, r = .returned (.tuple #[v, .int .i64 E]) ∧ Vw Z W' zs v D) ∧ (∀ Z, Below W.heap.size W Z → Calls Tryz.prog g ys Z fun r W' => ∃ v zs, r = .returned (.tuple #[v, .int .i64 E]) ∧ Vw Z W' zs v D)
section
variable {W : World} {aL la fa : Option Addr} {cL lc fc : Nat} {ys l : List EntD} {fs : List FamD} (hy : RdL3 W aL cL ys) (hl : RdL3 W la lc l) (hz : ys.map EntD.dat = l.map EntD.dat) (hn : l.length ≤ 1353245080300)
include hy hl hz hn
variable (hr : RdF W (.slice fa fs.length fc) fs) (hnn : fa = none → fc = 0) (C : Nat) (hC : (C = 0 ↔ SchemaOk fs) ∧ (C = 0 ∨ C = 28)) (clock t n low : Int) (major : Bool)
include hr hnn hC
end
end Go.Proofs.YthhkpkfpifllkaaGreat
