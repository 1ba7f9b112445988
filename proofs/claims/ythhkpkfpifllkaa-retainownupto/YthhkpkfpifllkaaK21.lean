import Derived.Test.YthhkpkfpifllkaaK20
namespace Go.Proofs.Ythhkpkfpifllkaa
open Go.RowKit
set_option linter.unusedVariables false

section
variable {w w' : World} {N : Nat} {v : Value} {xs : List EntD} {O : Nat → Prop} {x x' : EntD} {i g : Nat}
def EBl (x : EntD) (k : Nat) : Prop := x.vr.ownBlock = some k ∨ x.vq.ownBlock = some k ∨ x.vv.ownBlock = some k
theorem set_at {j : Nat} {y : EntD} (hi : xs[i]? = some x) (h : (xs.set i x')[j]? = some y) : (j = i ∧ y = x') ∨ (j ≠ i ∧ xs[j]? = some y) := by
  have hl : i < xs.length := (List.getElem?_eq_some_iff.1 hi).1
  by_cases e : j = i
  · subst e
    rw [List.getElem?_set_self hl] at h
    exact .inl ⟨rfl, (Option.some.inj h).symm⟩
  · rw [List.getElem?_set_ne (Ne.symm e)] at h
    exact .inr ⟨e, h⟩
theorem dsj_at (h : xs.Pairwise Dsj) {p q : Nat} {a b : EntD} (hp : xs[p]? = some a) (hq : xs[q]? = some b) (hne : p ≠ q) : Dsj a b := by
  obtain ⟨lp, ep⟩ := List.getElem?_eq_some_iff.1 hp
  obtain ⟨lq, eq⟩ := List.getElem?_eq_some_iff.1 hq
  rw [List.pairwise_iff_getElem] at h
  rcases Nat.lt_or_gt_of_ne hne with z | z
  · have := h p q lp lq z
    rw [ep, eq] at this
    exact this
  · have := h q p lq lp z
    rw [ep, eq] at this
    exact fun k h1 h2 => this k h2 h1
theorem Rw.swapE (h : Rw w N v xs O) (hi : xs[i]? = some x) (hb : ∀ k, EBl x' k ↔ EBl x k) (row' : w'.ownsRow N 45 7 v (xs.set i x').length (evals (xs.set i x'))) (o3' : O3 w' N x') (hg : v.ownBlock = some g ∨ EBl x g) (gr : w.grownBy w' (some g)) : Rw w' N v (xs.set i x') O := by
  have hx := List.mem_of_getElem? hi
  refine ⟨row', fun y hy => ?_, ?_, h.rowO, fun y hy k hk => ?_⟩
  · obtain ⟨j, hj⟩ := List.getElem?_of_mem hy
    rcases set_at hi hj with ⟨-, rfl⟩ | ⟨hne, hj2⟩
    · exact o3'
    · have y3 := h.ents y (List.mem_of_getElem? hj2)
      have dj := dsj_at h.ap hi hj2 (Ne.symm hne)
      have key : ∀ {u : Value} {n : Nat} {bs : List Nat}, Own w N u n bs → (∀ k, u.ownBlock = some k → EBl y k) → Own w' N u n bs := fun o hu => own_same o (fun k hk => gr.block k (o.2.lt k hk).2 (fun z => by
        have e := Option.some.inj z
        rw [e] at hk
        rcases hg with hg | hg
        · exact byte_ent o h.row g hk hg
        · exact dj g hg (hu g hk)))
      exact ⟨key y3.row (fun k hk => .inl hk), key y3.qual (fun k hk => .inr (.inl hk)), key y3.val (fun k hk => .inr (.inr hk)), y3.arq, y3.arv, y3.aqv⟩
  · rw [List.pairwise_iff_getElem]
    intro p q hp hq hpq
    have ap : ∀ {r : Nat} {b : EntD}, (xs.set i x')[r]? = some b → ∃ b', xs[r]? = some b' ∧ ∀ k, EBl b k ↔ EBl b' k := fun {r b} hr => by
      rcases set_at hi hr with ⟨rfl, rfl⟩ | ⟨-, h2⟩
      · exact ⟨x, hi, hb⟩
      · exact ⟨b, h2, fun _ => Iff.rfl⟩
    obtain ⟨a', ha, ea⟩ := ap (List.getElem?_eq_getElem hp)
    obtain ⟨b', hb', eb⟩ := ap (List.getElem?_eq_getElem hq)
    have dj := dsj_at h.ap ha hb' (Nat.ne_of_lt hpq)
    exact fun k h1 h2 => dj k ((ea k).1 h1) ((eb k).1 h2)
  · obtain ⟨j, hj⟩ := List.getElem?_of_mem hy
    rcases set_at hi hj with ⟨-, rfl⟩ | ⟨-, hj2⟩
    · exact h.entO x hx k ((hb k).1 hk)
    · exact h.entO y (List.mem_of_getElem? hj2) k hk
theorem Rw.setFam {n c : Nat} (h : Rw w N (.slice (some ⟨g, 0, none⟩) n c) xs O) (hn : n = xs.length) (hi : xs[i]? = some x) (f : Int) : Rw (w.setCell ⟨g, i * 7 + 1, none⟩ (.int .i64 f)) N (.slice (some ⟨g, 0, none⟩) n c) (xs.set i { x with fam := f }) O := by
  have hl : i < xs.length := (List.getElem?_eq_some_iff.1 hi).1
  have gr := grown1 w g (i * 7 + 1) (.int .i64 f)
  have e3 := h.ents x (List.mem_of_getElem? hi)
  have far : ∀ {u : Value} {m : Nat} {bs : List Nat}, Own w N u m bs → Own (w.setCell ⟨g, i * 7 + 1, none⟩ (.int .i64 f)) N u m bs := fun o => own_same o (fun k hk => gr.block k (o.2.lt k hk).2 (fun z => by cases z; exact byte_ent o h.row g hk rfl))
  have row := h.row
  rw [← hn] at row
  have r2 := row_set row (k := i * 7 + 1) (by rw [evals_len]; omega) (.int .i64 f)
  refine h.swapE hi (fun _ => Iff.rfl) ?_ ⟨far e3.row, far e3.qual, far e3.val, e3.arq, e3.arv, e3.aqv⟩ (.inl rfl) gr
  rw [List.length_set, ← hn, evals_setC hi (c := 1) (v := .int .i64 f) (by decide) rfl]
  exact r2
theorem evals_still (hi : xs[i]? = some x) (hc : x'.cells = x.cells) : evals (xs.set i x') = evals xs := by
  rw [evals_setC (y' := x') hi (c := 1) (v := .int .i64 x.fam) (by decide) (by rw [hc]; rfl)]
  refine List.ext_getElem? fun j => ?_
  by_cases ej : j = i * 7 + 1
  · subst ej
    have hl : i < xs.length := (List.getElem?_eq_some_iff.1 hi).1
    rw [List.getElem?_set_self (by rw [evals_len]; omega)]
    exact (evals_at hi (j := 1) rfl).symm
  · rw [List.getElem?_set_ne (Ne.symm ej)]
theorem own_put {B n c k : Nat} {bs : List Nat} (h : Own w B (.slice (some ⟨g, 0, none⟩) n c) n bs) (hk : k < n) (b : Nat) : Own (w.setCell ⟨g, k, none⟩ (.int .u8 (b : Int))) B (.slice (some ⟨g, 0, none⟩) n c) n (bs.set k b) := by
  refine ⟨by rw [List.length_set]; exact h.1, ?_⟩
  have r := row_set h.2 (k := k) (by rw [bv_length, ← h.1]; exact hk) (.int .u8 (b : Int))
  have e : bv (bs.set k b) = (bv bs).set k (.int .u8 (b : Int)) := by simp [bv, List.map_set]
  rw [e]
  exact r
theorem Rw.setRow {m c k : Nat} (h : Rw w N v xs O) (hi : xs[i]? = some x) (ev : x.vr = .slice (some ⟨g, 0, none⟩) m c) (hk : k < x.row.length) (b : Nat) : Rw (w.setCell ⟨g, k, none⟩ (.int .u8 (b : Int))) N v (xs.set i { x with row := x.row.set k b }) O := by
  have gr := grown1 w g k (.int .u8 (b : Int))
  have e3 := h.ents x (List.mem_of_getElem? hi)
  have z : x.vr.ownBlock = some g := by rw [ev]; rfl
  have far : ∀ {u : Value} {m : Nat} {bs : List Nat}, Own w N u m bs → (u.ownBlock = some g → False) → Own (w.setCell ⟨g, k, none⟩ (.int .u8 (b : Int))) N u m bs := fun o hn => own_same o (fun j hj => gr.block j (o.2.lt j hj).2 (fun y => hn (by rw [hj, y])))
  have o0 := e3.row
  rw [ev] at o0
  have em := own_len3 o0
  subst em
  have op := own_put o0 hk b
  rw [← ev] at op
  refine h.swapE hi (fun _ => Iff.rfl) ?_ ⟨by simpa using op, far e3.qual (fun hk => e3.arq g z hk), far e3.val (fun hk => e3.arv g z hk), e3.arq, e3.arv, e3.aqv⟩ (.inr (.inl z)) gr
  have ee : evals (xs.set i { x with row := x.row.set k b }) = evals xs := evals_still hi rfl
  rw [List.length_set, ee]
  exact row_same h.row (fun j hj => gr.block j (h.row.lt j hj).2 (fun y => byte_ent e3.row h.row g z (by rw [hj, y])))
theorem Rw.setQual {m c k : Nat} (h : Rw w N v xs O) (hi : xs[i]? = some x) (ev : x.vq = .slice (some ⟨g, 0, none⟩) m c) (hk : k < x.qual.length) (b : Nat) : Rw (w.setCell ⟨g, k, none⟩ (.int .u8 (b : Int))) N v (xs.set i { x with qual := x.qual.set k b }) O := by
  have gr := grown1 w g k (.int .u8 (b : Int))
  have e3 := h.ents x (List.mem_of_getElem? hi)
  have z : x.vq.ownBlock = some g := by rw [ev]; rfl
  have far : ∀ {u : Value} {m : Nat} {bs : List Nat}, Own w N u m bs → (u.ownBlock = some g → False) → Own (w.setCell ⟨g, k, none⟩ (.int .u8 (b : Int))) N u m bs := fun o hn => own_same o (fun j hj => gr.block j (o.2.lt j hj).2 (fun y => hn (by rw [hj, y])))
  have o0 := e3.qual
  rw [ev] at o0
  have em := own_len3 o0
  subst em
  have op := own_put o0 hk b
  rw [← ev] at op
  refine h.swapE hi (fun _ => Iff.rfl) ?_ ⟨far e3.row (fun hk => e3.arq g hk z), by simpa using op, far e3.val (fun hk => e3.aqv g z hk), e3.arq, e3.arv, e3.aqv⟩ (.inr (.inr (.inl z))) gr
  have ee : evals (xs.set i { x with qual := x.qual.set k b }) = evals xs := evals_still hi rfl
  rw [List.length_set, ee]
  exact row_same h.row (fun j hj => gr.block j (h.row.lt j hj).2 (fun y => byte_ent e3.qual h.row g z (by rw [hj, y])))
theorem Rw.setVal {m c k : Nat} (h : Rw w N v xs O) (hi : xs[i]? = some x) (ev : x.vv = .slice (some ⟨g, 0, none⟩) m c) (hk : k < x.val.length) (b : Nat) : Rw (w.setCell ⟨g, k, none⟩ (.int .u8 (b : Int))) N v (xs.set i { x with val := x.val.set k b }) O := by
  have gr := grown1 w g k (.int .u8 (b : Int))
  have e3 := h.ents x (List.mem_of_getElem? hi)
  have z : x.vv.ownBlock = some g := by rw [ev]; rfl
  have far : ∀ {u : Value} {m : Nat} {bs : List Nat}, Own w N u m bs → (u.ownBlock = some g → False) → Own (w.setCell ⟨g, k, none⟩ (.int .u8 (b : Int))) N u m bs := fun o hn => own_same o (fun j hj => gr.block j (o.2.lt j hj).2 (fun y => hn (by rw [hj, y])))
  have o0 := e3.val
  rw [ev] at o0
  have em := own_len3 o0
  subst em
  have op := own_put o0 hk b
  rw [← ev] at op
  refine h.swapE hi (fun _ => Iff.rfl) ?_ ⟨far e3.row (fun hk => e3.arv g hk z), far e3.qual (fun hk => e3.aqv g hk z), by simpa using op, e3.arq, e3.arv, e3.aqv⟩ (.inr (.inr (.inr z))) gr
  have ee : evals (xs.set i { x with val := x.val.set k b }) = evals xs := evals_still hi rfl
  rw [List.length_set, ee]
  exact row_same h.row (fun j hj => gr.block j (h.row.lt j hj).2 (fun y => byte_ent e3.val h.row g z (by rw [hj, y])))
end
end Go.Proofs.Ythhkpkfpifllkaa

namespace Go.Proofs.Ythhkpkfpifllkaa
open Go.RowKit Go.Maps
set_option linter.unusedVariables false

structure SpF (W W' : World) (O : Nat → Prop) : Prop where
  os : W'.os = W.os
  tape : W'.tape = W.tape
  output : W'.output = W.output
  size : W.heap.size ≤ W'.heap.size
  block : ∀ i, i < W.heap.size → ¬ O i → W'.heap[i]? = W.heap[i]?
theorem SpF.refl (W : World) (O : Nat → Prop) : SpF W W O := ⟨rfl, rfl, rfl, Nat.le_refl _, fun _ _ _ => rfl⟩
theorem SpF.grown {W w w' : World} {O : Nat → Prop} {o : Option Nat} (h : SpF W w O) (g : w.grownBy w' o) (ho : ∀ k, o = some k → O k) : SpF W w' O :=
  ⟨g.os.trans h.os, g.tape.trans h.tape, g.output.trans h.output, Nat.le_trans h.size g.size, fun i hi hn => (g.block i (Nat.lt_of_lt_of_le hi h.size) (fun z => hn (ho i z.symm))).trans (h.block i hi hn)⟩
theorem SpF.below {W w w' : World} {O : Nat → Prop} (h : SpF W w O) (b : Below w.heap.size w w') : SpF W w' O :=
  ⟨b.os.trans h.os, b.tape.trans h.tape, b.output.trans h.output, Nat.le_trans h.size b.size, fun i hi hn => (b.block i (Nat.lt_of_lt_of_le hi h.size)).trans (h.block i hi hn)⟩
theorem SpF.of_below {W w : World} (O : Nat → Prop) (b : Below W.heap.size W w) : SpF W w O := (SpF.refl W O).below b
def Sml (x : EntD) : Prop := x.row.length ≤ 3000000 ∧ x.qual.length ≤ 3000000 ∧ x.val.length ≤ 3000000
structure Si (W : World) (N : Nat) (v : Value) (O : Nat → Prop) (n t : Nat) (u1 u2 u3 : Value) (n1 n2 n3 : Nat) (wr : World) : Prop where
  st : ∃ ys y, Rw wr N v ys O ∧ ys.length = n ∧ ys[t]? = some y ∧ (y.vr = u1 ∧ y.vq = u2 ∧ y.vv = u3) ∧ y.row.length = n1 ∧ y.qual.length = n2 ∧ y.val.length = n3
  fr : SpF W wr O
structure So (W : World) (N : Nat) (v : Value) (O : Nat → Prop) (n : Nat) (wr : World) : Prop where
  st : ∃ ys, Rw wr N v ys O ∧ ys.length = n
  fr : SpF W wr O
section
variable {W wr : World} {N n t n1 n2 n3 k c g : Nat} {v u1 u2 u3 : Value} {O : Nat → Prop}
theorem So.at (h : So W N v O n wr) (ht : t < n) : ∃ a1 a2 a3 c1 c2 c3 n1 n2 n3, Si W N v O n t (.slice a1 n1 c1) (.slice a2 n2 c2) (.slice a3 n3 c3) n1 n2 n3 wr := by
  obtain ⟨ys, h1, h2⟩ := h.st
  have e : ys[t]? = some (ys[t]'(by omega)) := List.getElem?_eq_getElem _
  have e3 := h1.ents _ (List.mem_of_getElem? e)
  obtain ⟨a1, c1, e1⟩ := own_form' e3.row
  obtain ⟨a2, c2, e2⟩ := own_form' e3.qual
  obtain ⟨a3, c3, e4⟩ := own_form' e3.val
  exact ⟨a1, a2, a3, c1, c2, c3, _, _, _, ⟨ys, _, h1, h2, e, ⟨e1, e2, e4⟩, rfl, rfl, rfl⟩, h.fr⟩
theorem Si.so (h : Si W N v O n t u1 u2 u3 n1 n2 n3 wr) : So W N v O n wr := by
  obtain ⟨ys, y, h1, h2, -⟩ := h.st
  exact ⟨⟨ys, h1, h2⟩, h.fr⟩
theorem Si.row (h : Si W N v O n t (.slice (some ⟨g, 0, none⟩) n1 c) u2 u3 n1 n2 n3 wr) (hk : k < n1) (b : Nat) : Si W N v O n t (.slice (some ⟨g, 0, none⟩) n1 c) u2 u3 n1 n2 n3 (wr.setCell ⟨g, k, none⟩ (.int .u8 (b : Int))) := by
  obtain ⟨ys, y, h1, h2, h3, ⟨e1, e2, e3⟩, l1, l2, l3⟩ := h.st
  have hl : t < ys.length := (List.getElem?_eq_some_iff.1 h3).1
  refine ⟨⟨_, _, h1.setRow h3 e1 (by omega) b, by rw [List.length_set]; exact h2, List.getElem?_set_self hl, ⟨e1, e2, e3⟩, by rw [List.length_set]; exact l1, l2, l3⟩, h.fr.grown (grown1 _ _ _ _) (fun j hj => by cases hj; exact h1.entO y (List.mem_of_getElem? h3) g (.inl (by rw [e1]; rfl)))⟩
theorem Si.qual (h : Si W N v O n t u1 (.slice (some ⟨g, 0, none⟩) n2 c) u3 n1 n2 n3 wr) (hk : k < n2) (b : Nat) : Si W N v O n t u1 (.slice (some ⟨g, 0, none⟩) n2 c) u3 n1 n2 n3 (wr.setCell ⟨g, k, none⟩ (.int .u8 (b : Int))) := by
  obtain ⟨ys, y, h1, h2, h3, ⟨e1, e2, e3⟩, l1, l2, l3⟩ := h.st
  have hl : t < ys.length := (List.getElem?_eq_some_iff.1 h3).1
  refine ⟨⟨_, _, h1.setQual h3 e2 (by omega) b, by rw [List.length_set]; exact h2, List.getElem?_set_self hl, ⟨e1, e2, e3⟩, l1, by rw [List.length_set]; exact l2, l3⟩, h.fr.grown (grown1 _ _ _ _) (fun j hj => by cases hj; exact h1.entO y (List.mem_of_getElem? h3) g (.inr (.inl (by rw [e2]; rfl))))⟩
theorem Si.val (h : Si W N v O n t u1 u2 (.slice (some ⟨g, 0, none⟩) n3 c) n1 n2 n3 wr) (hk : k < n3) (b : Nat) : Si W N v O n t u1 u2 (.slice (some ⟨g, 0, none⟩) n3 c) n1 n2 n3 (wr.setCell ⟨g, k, none⟩ (.int .u8 (b : Int))) := by
  obtain ⟨ys, y, h1, h2, h3, ⟨e1, e2, e3⟩, l1, l2, l3⟩ := h.st
  have hl : t < ys.length := (List.getElem?_eq_some_iff.1 h3).1
  refine ⟨⟨_, _, h1.setVal h3 e3 (by omega) b, by rw [List.length_set]; exact h2, List.getElem?_set_self hl, ⟨e1, e2, e3⟩, l1, l2, by rw [List.length_set]; exact l3⟩, h.fr.grown (grown1 _ _ _ _) (fun j hj => by cases hj; exact h1.entO y (List.mem_of_getElem? h3) g (.inr (.inr (by rw [e3]; rfl))))⟩
theorem Si.fam {m c : Nat} (h : Si W N (.slice (some ⟨g, 0, none⟩) m c) O n t u1 u2 u3 n1 n2 n3 wr) (hm : m = n) (f : Int) : So W N (.slice (some ⟨g, 0, none⟩) m c) O n (wr.setCell ⟨g, t * 7 + 1, none⟩ (.int .i64 f)) := by
  obtain ⟨ys, y, h1, h2, h3, -⟩ := h.st
  exact ⟨⟨_, h1.setFam (by omega) h3 f, by rw [List.length_set]; exact h2⟩, h.fr.grown (grown1 _ _ _ _) (fun j hj => by cases hj; exact h1.rowO g rfl)⟩
theorem Si.cells {a : Option Addr} {m c : Nat} (h : Si W N (.slice a m c) O n t u1 u2 u3 n1 n2 n3 wr) : ∃ gL, a = some ⟨gL, 0, none⟩ ∧ wr.cell? ⟨gL, t * 7, none⟩ = some u1 ∧ wr.cell? ⟨gL, t * 7 + 2, none⟩ = some u2 ∧ wr.cell? ⟨gL, t * 7 + 6, none⟩ = some u3 ∧ (∃ f, wr.cell? ⟨gL, t * 7 + 1, none⟩ = some (.int .i64 f)) ∧ ∀ i, wr.frozen? ⟨gL, i, none⟩ = false := by
  obtain ⟨ys, y, h1, h2, h3, ⟨e1, e2, e3⟩, -⟩ := h.st
  rcases h1.row.2 with ⟨r1, r2⟩ | ⟨gL, cap, cur, r1, r2, r3, -⟩
  · have hl : t < ys.length := (List.getElem?_eq_some_iff.1 h3).1
    omega
  · have r1' := r1
    simp only [Value.slice.injEq] at r1
    obtain ⟨rfl, rfl, rfl⟩ := r1
    obtain ⟨gq, eg, -, -, hc⟩ := row_cells3 h1.row h3
    simp only [Option.some.injEq, Addr.mk.injEq] at eg
    obtain ⟨rfl, -, -⟩ := eg
    have c0 := hc 0 _ rfl
    have c1 := hc 1 _ rfl
    have c2 := hc 2 _ rfl
    have c6 := hc 6 _ rfl
    simp only [Nat.add_zero] at c0
    rw [e1] at c0
    rw [e2] at c2
    rw [e3] at c6
    exact ⟨gL, rfl, c0, c2, c6, ⟨_, c1⟩, fun i => by simp [World.frozen?, r3]⟩
end
end Go.Proofs.Ythhkpkfpifllkaa

namespace Go.Proofs.Ythhkpkfpifllkaa
open Go.RowKit Go.Maps
set_option linter.unusedVariables false

theorem SpF.trans {a b c : World} {O : Nat → Prop} (h : SpF a b O) (k : SpF b c O) : SpF a c O := ⟨k.os.trans h.os, k.tape.trans h.tape, k.output.trans h.output, Nat.le_trans h.size k.size, fun i hi hn => (k.block i (Nat.lt_of_lt_of_le hi h.size) hn).trans (h.block i hi hn)⟩
theorem own_byte {w : World} {B n c k : Nat} {a : Option Addr} {bs : List Nat} (h : Own w B (.slice a n c) n bs) (hk : k < n) : ∃ g, a = some ⟨g, 0, none⟩ ∧ (∃ b, w.cell? ⟨g, k, none⟩ = some (.int .u8 b)) ∧ w.frozen? ⟨g, k, none⟩ = false := by
  rcases h.2.2 with ⟨h1, h2⟩ | ⟨g, cap, cur, h1, _, h3, _⟩
  · omega
  · simp only [Value.slice.injEq] at h1
    obtain ⟨rfl, -, rfl⟩ := h1
    exact ⟨g, rfl, ⟨_, ownCell h hk⟩, by simp [World.frozen?, h3]⟩
section
variable {W wr : World} {N n t n1 n2 n3 k c1 c2 c3 : Nat} {v : Value} {a1 a2 a3 : Option Addr} {O : Nat → Prop}
theorem Si.byte (h : Si W N v O n t (.slice a1 n1 c1) (.slice a2 n2 c2) (.slice a3 n3 c3) n1 n2 n3 wr) : (∀ k, k < n1 → ∃ g, a1 = some ⟨g, 0, none⟩ ∧ (∃ b, wr.cell? ⟨g, k, none⟩ = some (.int .u8 b)) ∧ wr.frozen? ⟨g, k, none⟩ = false) ∧ (∀ k, k < n2 → ∃ g, a2 = some ⟨g, 0, none⟩ ∧ (∃ b, wr.cell? ⟨g, k, none⟩ = some (.int .u8 b)) ∧ wr.frozen? ⟨g, k, none⟩ = false) ∧ (∀ k, k < n3 → ∃ g, a3 = some ⟨g, 0, none⟩ ∧ (∃ b, wr.cell? ⟨g, k, none⟩ = some (.int .u8 b)) ∧ wr.frozen? ⟨g, k, none⟩ = false) ∧ (n1 ≤ maxLen ∧ n2 ≤ maxLen ∧ n3 ≤ maxLen) := by
  obtain ⟨ys, y, h1, h2, h3, ⟨e1, e2, e3⟩, l1, l2, l3⟩ := h.st
  have o := h1.ents y (List.mem_of_getElem? h3)
  have o1 := o.row
  have o2 := o.qual
  have o3 := o.val
  rw [e1, l1] at o1
  rw [e2, l2] at o2
  rw [e3, l3] at o3
  have cp : ∀ {u : Nat} {c : Nat} {a : Option Addr} {bs : List Nat}, Own wr N (.slice a u c) u bs → u ≤ maxLen := fun {u c a bs} q => by
    rcases q.2.2 with ⟨h1, h2⟩ | ⟨g, cap, cur, h1, _, _, h4, h5, _⟩
    · rw [h2]; exact Nat.zero_le _
    · exact Nat.le_trans h4 h5
  exact ⟨fun k hk => own_byte o1 hk, fun k hk => own_byte o2 hk, fun k hk => own_byte o3 hk, cp o1, cp o2, cp o3⟩
end
end Go.Proofs.Ythhkpkfpifllkaa

namespace Go.Proofs.Ythhkpkfpifllkaa
open Go.RowKit Go.Maps
set_option linter.unusedVariables false

theorem firstBad_dat {chk : EntD → Int} (hk : ∀ x y : EntD, x.dat = y.dat → chk x = chk y) : ∀ {l l' : List EntD}, l.map EntD.dat = l'.map EntD.dat → firstBad chk l = firstBad chk l'
  | [], [], _ => rfl
  | [], y :: l', h => by simp at h
  | x :: l, [], h => by simp at h
  | x :: l, y :: l', h => by
    rw [List.map_cons, List.map_cons] at h
    injection h with h1 h2
    rw [firstBad, firstBad, hk x y h1, firstBad_dat hk h2]
theorem oneS_dat {l l' : List EntD} (h : l.map EntD.dat = l'.map EntD.dat) (k : OneS l) : OneS l' := by
  intro x hx y hy e
  have hx' : x.dat ∈ l.map EntD.dat := by rw [h]; exact List.mem_map_of_mem hx
  have hy' : y.dat ∈ l.map EntD.dat := by rw [h]; exact List.mem_map_of_mem hy
  obtain ⟨a, ha, ea⟩ := List.mem_map.1 hx'
  obtain ⟨b, hb, eb⟩ := List.mem_map.1 hy'
  rw [← ea, ← eb]
  exact k a ha b hb (by
    have e1 : a.seq = x.seq := congrArg En.seq ea
    have e2 : b.seq = y.seq := congrArg En.seq eb
    omega)
theorem once_dat {l l' : List EntD} (h : l.map EntD.dat = l'.map EntD.dat) : (onceS l = none) = (onceS l' = none) := by
  have e1 := oneS_once l
  have e2 := oneS_once l'
  apply propext
  constructor
  · intro z
    by_cases q : onceS l' = none
    · exact q
    · exact absurd z (e1.1 (oneS_dat h.symm (e2.2 q)))
  · intro z
    by_cases q : onceS l = none
    · exact q
    · exact absurd z (e2.1 (oneS_dat h (e1.2 q)))
theorem inOrder_dat {chk : EntD → Int} (hk : ∀ x y : EntD, x.dat = y.dat → chk x = chk y) {l l' : List EntD} (h : l.map EntD.dat = l'.map EntD.dat) : inOrderE chk l = inOrderE chk l' := by
  unfold inOrderE
  rw [firstBad_dat hk h]
  simp only [once_dat h]
theorem check3_dat (k : Nat) (x y : EntD) (h : x.dat = y.dat) : check3S k x = check3S k y := by rw [check_dat k x, check_dat k y, h]
theorem chkC_dat (x y : EntD) (h : x.dat = y.dat) : chkC x = chkC y := by rw [← chkF_neg (k := -1) (by omega) x, ← chkF_neg (k := -1) (by omega) y]; unfold chkF; rw [show checkS x = checkS y from by
  have e1 : checkS x = checkS (EntD.ofEn x.dat) := rfl
  have e2 : checkS y = checkS (EntD.ofEn y.dat) := rfl
  rw [e1, e2, h], show x.fam = y.fam from congrArg En.fam h]
theorem ask_vis (C : Nat) (fs : List FamD) (clock : Int) (l : List EntD) : askE C fs clock 0 0 1 l = visE C fs clock l := by
  unfold askE visE readE readerS boundsS
  by_cases c : C = 0
  · subst c
    by_cases b : badT clock = true
    · simp [b]
    · simp only [Bool.not_eq_true] at b
      have b0 : badT 0 = false := by decide
      have b1 : badT 1099511627776 = false := by decide
      simp [b, b0, b1]
  · have : (C : Int) ≠ 0 := by omega
    simp [c]
theorem ask_top (C : Nat) (fs : List FamD) (clock : Int) (l : List EntD) : askE C fs clock 0 0 1 l = topE C fs clock l := by
  unfold askE topE boundsS
  by_cases c : C = 0
  · subst c
    by_cases b : badT clock = true
    · simp [b]
    · simp only [Bool.not_eq_true] at b
      have b0 : badT 0 = false := by decide
      simp [b, b0]
  · simp [c]
theorem ask_squash (C : Nat) (fs : List FamD) (clock low : Int) (l : List EntD) : askE C fs clock low 0 1 l = squashE C fs clock low l := by
  unfold askE squashE boundsS
  by_cases c : C = 0
  · subst c
    have b0 : badT 0 = false := by decide
    cases b : badT clock <;> cases d : badT low <;> simp [b, d, b0]
  · simp [c]
theorem ask_read (C : Nat) (fs : List FamD) (clock t n : Int) (l : List EntD) : askE C fs clock 0 t n l = readE C fs clock t n l := by
  unfold askE readE readerS boundsS
  by_cases c : C = 0
  · subst c
    have b0 : badT 0 = false := by decide
    cases b : badT clock <;> cases d : badT t <;> simp [b, d, b0]
    by_cases h : n < 1 ∨ 16 < n
    · simp [h]
      intro z
      omega
    · simp [h]
      intro z
      omega
  · simp [c]
theorem ask_dat {C : Nat} {fs : List FamD} {clock low t n : Int} {l l' : List EntD} (h : l.map EntD.dat = l'.map EntD.dat) : askE C fs clock low t n l = askE C fs clock low t n l' := by
  unfold askE
  rw [inOrder_dat (check3_dat fs.length) h]
def orNone (E : Int) (D : List En) : List En := if E = 0 then D else []
theorem Vw.none (W : World) {W' : World} (b : Below W.heap.size W W') : Vw W W' [] (.slice none 0 0) [] := ⟨row_same (Rw.nil W W.heap.size (fun _ => True)).row (fun g hg => by cases hg), by simp, b, rfl, by simp⟩
theorem vw_rw {W W' : World} {v : Value} {zs : List EntD} {O : Nat → Prop} {D : List En} (h : Rw W' W.heap.size v zs O) (b : Below W.heap.size W W') (hd : zs.map EntD.dat = D) (hb : ∀ e ∈ D, ByE e) : Vw W W' zs v D :=
  ⟨h.row, h.ents, b, hd, fun x hx => hb _ (by rw [← hd]; exact List.mem_map_of_mem hx)⟩
theorem ord_by {k : Nat} {l m : List En} (h : IsOrd k l m) (hb : ∀ e ∈ l, ByE e) : ∀ e ∈ m, ByE e := fun e he => hb e ((h.mem e).1 he)
theorem read_sub {t n : Int} {v : List En} : ∀ e ∈ readR t n v, e ∈ v := by
  have key : ∀ (v acc : List En), ∀ e ∈ v.foldl (fun r e => if e.ts ≤ t ∧ ((r.filter fun y => mates y e).length : Int) < n then r ++ [e] else r) acc, e ∈ acc ∨ e ∈ v := by
    intro v
    induction v with
    | nil => intro acc e he; exact .inl he
    | cons x v ih =>
      intro acc e he
      rw [List.foldl_cons] at he
      rcases ih _ e he with h | h
      · split at h
        · rcases List.mem_append.1 h with h | h
          · exact .inl h
          · rw [List.mem_singleton] at h
            exact .inr (by rw [h]; exact List.mem_cons_self)
        · exact .inl h
      · exact .inr (List.mem_cons_of_mem _ h)
  intro e he
  rcases key v [] e he with h | h
  · cases h
  · exact h
theorem show_vis {fs : List FamD} {clock : Int} {l m : List En} (h : IsOrd fs.length l m) : (m.filter fun x => shw 1099511627776 (sv (mt fs) clock m x)).map (tld m) = m.filter (visB (mt fs) clock m) := by
  rw [vis_five]
  unfold fiveL
  rw [List.filter_map, List.filter_filter]
  congr 1
  apply List.filter_congr
  intro x hx
  rw [Bool.eq_iff_iff]
  unfold shw
  simp only [decide_eq_true_eq, Bool.and_eq_true, Function.comp, sv_e]
  constructor
  · rintro ⟨a, b, c⟩
    exact ⟨b, a⟩
  · rintro ⟨b, a⟩
    refine ⟨a, b, ?_⟩
    rw [(tld_eq m x).2.2.2.1]
    have hc := check_zero.1 (h.ck x hx)
    have : (EntD.ofEn x).ts ≤ 1099511627776 := by omega
    exact this
section
variable {W : World} {cap fc : Nat} {a fa : Option Addr} {fs : List FamD} {l : List EntD} {m : List En} {E : Int}
theorem p_sort (h0 : RdL3 W a cap l) (hl : l.length ≤ 1353245080300) (hE : inOrderE chkC l = E) (hm : E = 0 → IsOrd 8 (l.map EntD.dat) m) :
    Calls Try.prog 6 #[.slice a l.length cap] W fun r W' => ∃ v zs, r = .returned (.tuple #[v, .int .i64 E]) ∧ Vw W W' zs v (orNone E m) := by
  refine Calls.mono (sort_any h0 hl) ?_
  rw [hE]
  rintro r W' ⟨b, h1, h2⟩
  unfold orNone
  by_cases z : E = 0
  · obtain ⟨zs, m', v, O, k1, k2, k3, k4, k5, k6⟩ := h2 z
    have em := k1.unique (hm z)
    subst em
    rw [if_pos z, z]
    exact ⟨v, zs, k2, vw_rw k3 b k5 (ord_by k1 h0.by)⟩
  · rw [if_neg z]
    exact ⟨_, [], h1 z, Vw.none W b⟩
theorem Od.vw {W W' : World} {l zs : List EntD} {v : Value} {t : Nat} (h : Od W W' l t zs v) : Vw W W' zs v (zs.map EntD.dat) := ⟨h.row, h.ents, h.below, rfl, h.by_⟩
end
end Go.Proofs.Ythhkpkfpifllkaa

namespace Go.Proofs.Ythhkpkfpifllkaa
open Go.RowKit Go.Maps
set_option linter.unusedVariables false

structure AskD where
  k : Int
  fa : Option Addr
  fc : Nat
  fs : List FamD
  clock : Int
  t : Int
  n : Int
  major : Bool
  la : Option Addr
  lc : Nat
  l : List EntD
def AskD.cells (o : AskD) : List Value := [.int .i64 o.k, .slice o.fa o.fs.length o.fc, .int .i64 o.clock, .int .i64 o.t, .int .i64 o.n, .bool o.major, .slice o.la o.l.length o.lc]
def AskD.Ok (w : World) (o : AskD) : Prop := RdF w (.slice o.fa o.fs.length o.fc) o.fs ∧ (o.fa = none → o.fc = 0) ∧ RdL3 w o.la o.lc o.l ∧ o.l.length ≤ 1353245080300 ∧ ∀ x ∈ o.l, ShrtW x
def RdA (w : World) (v : Value) (os : List AskD) : Prop :=
  os.length ≤ 281474976710656 ∧ ∃ a cap, v = .slice a os.length cap ∧ (os = [] ∨ ∃ b off, a = some ⟨b, off, none⟩ ∧ ∀ i o, os[i]? = some o → (∀ j x, o.cells[j]? = some x → w.cell? ⟨b, off + i * 7 + j, none⟩ = some x) ∧ AskD.Ok w o)
theorem schema_c (fs : List FamD) : ∃ C : Nat, (C = 0 ↔ SchemaOk fs) ∧ (C = 0 ∨ C = 28) := by
  by_cases h : SchemaOk fs
  · exact ⟨0, ⟨fun _ => h, fun _ => rfl⟩, .inl rfl⟩
  · exact ⟨28, ⟨(fun z => by cases z), fun z => absurd z h⟩, .inr rfl⟩
theorem ord_or {k : Nat} {l : List EntD} (E : Int) (h : E = 0 → inOrderE (check3S k) l = 0) : ∃ m : List En, E = 0 → IsOrd k (l.map EntD.dat) m := by
  by_cases z : E = 0
  · obtain ⟨m, hm⟩ := ord_exists (h z)
    exact ⟨m, fun _ => hm⟩
  · exact ⟨[], fun q => absurd q z⟩
def RdL3E (w : World) (v : Value) (zs : List EntD) : Prop := ∃ a c, v = .slice a zs.length c ∧ RdL3 w a c zs
theorem Vw.fz {W W1 w w' : World} {B : Nat} {zs : List EntD} {v : Value} {p : List En} (h : Vw W w zs v p) (hW : W1.heap.size ≤ W.heap.size) (k : Fz B W1.heap.size w w') : RdL3E w' v zs := by
  have kk : ∀ g, W.heap.size ≤ g → g < w.heap.size → w'.heap[g]? = w.heap[g]? := fun g h1 h2 => k.block g h2 (.inr (by omega))
  have row := row_same h.row (fun g hg => kk g (h.row.lt g hg).1 (h.row.lt g hg).2)
  have ents : ∀ x ∈ zs, O3 w' W.heap.size x := fun x hx => (h.ents x hx).keepO (fun g hg => by
    have := (h.ents x hx).lt g hg
    exact kk g this.1 this.2)
  obtain ⟨a, c, e, hr⟩ := row_rdl row (fun x hx => (ents x hx).okB (h.by_ x hx))
  exact ⟨a, c, e, hr⟩
theorem ord_len {k : Nat} {l : List EntD} {m : List En} (hi : inOrderE (check3S k) l = 0) (h : IsOrd k (l.map EntD.dat) m) : m.length ≤ l.length := by
  obtain ⟨hc, xs, hx⟩ := inOrder_ok hi
  have ho := isOrd_of hi hx (List.mergeSort_perm xs (fun x y => decide (compareS x y ≤ 0))) (by
    have := List.pairwise_mergeSort (le := fun x y : EntD => decide (compareS x y ≤ 0)) (fun a b c h1 h2 => by
      simp only [decide_eq_true_eq] at *
      exact cmp_trans h1 h2) (fun a b => by
      have := compareS_swap a b
      simp only [Bool.or_eq_true, decide_eq_true_eq]
      omega) xs
    exact this.imp (fun h => by simpa using h))
  rw [h.unique ho, List.length_map, List.length_mergeSort]
  exact onceS_len hx
theorem read_len {t n : Int} (v : List En) : (readR t n v).length ≤ v.length := by
  have key : ∀ (v acc : List En), (v.foldl (fun r e => if e.ts ≤ t ∧ ((r.filter fun y => mates y e).length : Int) < n then r ++ [e] else r) acc).length ≤ acc.length + v.length := by
    intro v
    induction v with
    | nil => intro acc; simp
    | cons x v ih =>
      intro acc
      rw [List.foldl_cons]
      refine Nat.le_trans (ih _) ?_
      split
      · simp only [List.length_append, List.length_cons, List.length_nil]; omega
      · simp only [List.length_cons]; omega
  have := key v []
  simpa [readR] using this
theorem orNone_len {E : Int} {D : List En} {n : Nat} (h : E = 0 → D.length ≤ n) : (orNone E D).length ≤ n := by
  unfold orNone
  split
  · rename_i z; exact h z
  · simp
def Both (f g : Nat) (xs ys : Array Value) (W : World) : Prop :=
  ∃ (E : Int) (D : List En), D.length ≤ 1353245080300 ∧ (∀ Z, Below W.heap.size W Z → Calls Try.prog f xs Z fun r W' => ∃ v zs, r = .returned (.tuple #[v, .int .i64 E]) ∧ Vw Z W' zs v D) ∧ (∀ Z, Below W.heap.size W Z → Calls Try.prog g ys Z fun r W' => ∃ v zs, r = .returned (.tuple #[v, .int .i64 E]) ∧ Vw Z W' zs v D)
section
variable {W : World} {aL la fa : Option Addr} {cL lc fc : Nat} {ys l : List EntD} {fs : List FamD} (hy : RdL3 W aL cL ys) (hl : RdL3 W la lc l) (hz : ys.map EntD.dat = l.map EntD.dat) (hn : l.length ≤ 1353245080300)
include hy hl hz hn
variable (hr : RdF W (.slice fa fs.length fc) fs) (hnn : fa = none → fc = 0) (C : Nat) (hC : (C = 0 ↔ SchemaOk fs) ∧ (C = 0 ∨ C = 28)) (clock t n low : Int) (major : Bool)
include hr hnn hC
end
end Go.Proofs.Ythhkpkfpifllkaa

namespace Go.Proofs.Ythhkpkfpifllkaa
open Go.RowKit
set_option linter.unusedVariables false

structure Fdt (fs : List FamD) (clock : Int) (OO : List Vd → List En) (ins outs : List EntD) (la : EntD) (s : SpD) (V0 us : List Vd) (l m : List EntD) (n : Nat) : Prop where
  pu : Pushed (mt fs) clock fs.length l m s.dat us
  li : l.map EntD.dat = ins.map EntD.dat
  out : outs.map EntD.dat = OO us
  lla : s.begun = true → la.dat = s.last.dat
  bla : Sz la.dat
  szi : ∀ x ∈ ins, Sz x.dat
  sz0 : ∀ v ∈ V0, Sz v.e
  few : V0.length + ins.length ≤ n
theorem pushE_dat {k : Nat} {s : SpD} {y e : EntD} (h : y.dat = e.dat) : pushE k s y = pushE k s e := by
  have sm := EntD.dat_same.1 h
  have h1 : check3S k y = check3S k e := by rw [check_dat, check_dat k e, h]
  have h2 : compareS y s.last = compareS e s.last := compareS_same sm ⟨rfl, rfl, rfl, rfl, rfl, rfl, rfl⟩
  have h3 : sameS y s.last = sameS e s.last := by
    cases q : sameS e s.last with
    | true => exact sameS_of (h.trans (sameS_dat q))
    | false =>
      cases q2 : sameS y s.last with
      | false => rfl
      | true => rw [sameS_of (h.symm.trans (sameS_dat q2))] at q; cases q
  have h4 : y.seq = e.seq := congrArg En.seq h
  unfold pushE
  rw [h1, h2, h3, h4]
theorem pushR_dat {k : Nat} {la lb e : EntD} {has : Bool} (h : has = true → la.dat = lb.dat) : pushR k la has e = pushR k lb has e := by
  unfold pushR
  cases has with
  | false => simp
  | true =>
    have hd := h rfl
    have sm := EntD.dat_same.1 hd
    have h2 : compareS la e = compareS lb e := compareS_same sm ⟨rfl, rfl, rfl, rfl, rfl, rfl, rfl⟩
    have h4 : la.seq = lb.seq := congrArg En.seq hd
    have h5 : EntD.Same la e ↔ EntD.Same lb e := by rw [← EntD.dat_same, ← EntD.dat_same, hd]
    simp only [h2, h4, h5]
section
variable {fs : List FamD} {clock : Int} {OO : List Vd → List En} {wa : List En → List En} {ins outs : List EntD} {la : EntD} {s : SpD} {V0 us : List Vd} {l m : List EntD} {n : Nat}
theorem Fdt.pushR (d : Fdt fs clock OO ins outs la s V0 us l m n) {y e : EntD} (hy : y.dat = e.dat) : pushR fs.length la s.begun e = pushE fs.length s y := by
  rw [pushR_dat (lb := s.last) d.lla, pushR_is, pushE_dat hy]
theorem Fdt.lens (d : Fdt fs clock OO ins outs la s V0 us l m n) : (V0 ++ us).length ≤ n ∧ s.rank ≤ ((V0 ++ us).length : Int) ∧ (s.waiting = true → s.begun = true) ∧ (V0 ++ us ++ (resolveS (mt fs) clock s.dat 3).1).length ≤ n ∧ ins.length ≤ n := by
  obtain ⟨f1, f2, f3, f4⟩ := d.pu.few
  have hl : l.length = ins.length := by have := congrArg List.length d.li; simpa using this
  have f3' : s.rank ≤ (us.length : Int) := f3
  have := d.few
  refine ⟨by rw [List.length_append]; omega, by rw [List.length_append]; omega, f4, ?_, by omega⟩
  rw [List.append_assoc, List.length_append, f2]
  omega
theorem Fdt.szl (d : Fdt fs clock OO ins outs la s V0 us l m n) : ∀ x ∈ l, Sz x.dat := fun x hx => by
  have : x.dat ∈ ins.map EntD.dat := by rw [← d.li]; exact List.mem_map_of_mem hx
  obtain ⟨z, hz, e⟩ := List.mem_map.1 this
  rw [← e]
  exact d.szi z hz
theorem Fdt.more (d : Fdt fs clock OO ins outs la s V0 us l m n) : Fdt fs clock OO ins outs la s V0 us l m (n + 1) := ⟨d.pu, d.li, d.out, d.lla, d.bla, d.szi, d.sz0, Nat.le_succ_of_le d.few⟩
theorem Fdt.refused (d : Fdt fs clock OO ins outs la s V0 us l m n) {s' : SpD} (h : s'.dat = s.dat) : Fdt fs clock OO ins outs la s' V0 us l m (n + 1) ∧ s'.begun = s.begun := by
  have hb : s'.begun = s.begun := congrArg Sp.begun h
  have hl : s'.last.dat = s.last.dat := congrArg Sp.last h
  exact ⟨⟨h ▸ d.pu, d.li, d.out, fun z => by rw [hl]; exact d.lla (hb ▸ z), d.bla, d.szi, d.sz0, Nat.le_succ_of_le d.few⟩, hb⟩
theorem Fdt.outSz (d : Fdt fs clock OO ins outs la s V0 us l m n) (K : Kd (mt fs) clock fs.length OO wa) : ∀ x ∈ outs, Sz x.dat := fun x hx => by
  have : x.dat ∈ OO us := by rw [← d.out]; exact List.mem_map_of_mem hx
  obtain ⟨v, hv, e⟩ := K.mem us _ this
  rw [← e]
  exact (d.pu.sz d.szl).1 v hv
theorem Fdt.isOrd (d : Fdt fs clock OO ins outs la s V0 us l m n) : IsOrd fs.length (ins.map EntD.dat) (m.map EntD.dat) := by rw [← d.li]; exact d.pu.isOrd
theorem Fdt.inOrd (d : Fdt fs clock OO ins outs la s V0 us l m n) : inOrderE (check3S fs.length) ins = 0 := d.isOrd.part (fun e he => he)
theorem Fdt.pushed (K : Kd (mt fs) clock fs.length OO wa) (d : Fdt fs clock OO ins outs la s V0 us l m n) {e y : EntD} (hy : y.dat = e.dat) (hb : ByE e.dat) (hc : ∀ (i : Nat) x, i + 1 < ins.length → ins[i]? = some x → x.seq = e.seq → x.dat = e.dat) (hE : pushE fs.length s y = 0) {s' : SpD} (hs' : s'.dat = (pushS fs.length (mt fs) clock s y).2) {xs : List EntD} (hx : OO (V0 ++ us) ++ xs.map EntD.dat = OO (V0 ++ us ++ (pushS fs.length (mt fs) clock s y).1)) :
    (∀ z ∈ xs, Sz z.dat) ∧ s'.begun = true ∧ Sz e.dat ∧ (∀ (zs : List EntD) (x x2 : EntD), zs.map EntD.dat = xs.map EntD.dat → x.dat = e.dat → x2.dat = e.dat → ∃ l' m', Fdt fs clock OO (ins ++ [x]) (outs ++ zs) x2 s' V0 (us ++ (pushS fs.length (mt fs) clock s y).1) l' m' (n + 1)) ∧ (s.begun = true → la.row ≠ e.row → ∃ c, outs.map EntD.dat ++ xs.map EntD.dat = wa (m.map EntD.dat) ++ c) ∧ outs.length + xs.length ≤ n + 1 := by
  have hc' : ∀ (i : Nat) x, i + 1 < l.length → l[i]? = some x → x.seq = y.seq → x.dat = y.dat := fun i x h1 h2 h3 => by
    have hl : l.length = ins.length := by have := congrArg List.length d.li; simpa using this
    have e1 : (l.map EntD.dat)[i]? = some x.dat := by rw [List.getElem?_map, h2]; rfl
    rw [d.li, List.getElem?_map] at e1
    cases hi : ins[i]? with
    | none => rw [hi] at e1; cases e1
    | some z =>
      rw [hi] at e1
      have e2 : z.dat = x.dat := Option.some.inj e1
      have := hc i z (by omega) hi ((congrArg En.seq e2).trans (h3.trans (congrArg En.seq hy)))
      rw [← e2, this, hy]
  obtain ⟨m', hm'⟩ := d.pu.push hc' hE
  have hck : check3S fs.length e = 0 := by
    have q := hE
    unfold pushE at q
    have h1 : check3S fs.length y = check3S fs.length e := by rw [check_dat, check_dat fs.length e, hy]
    by_cases z : check3S fs.length y ≠ 0
    · rw [if_pos z] at q; exact absurd q z
    · rw [← h1]; exact Decidable.not_not.1 z
  have hF := fit_of_check hck
  have hSe : Sz e.dat := ⟨hb, hF.row, hF.qual, hF.val⟩
  rw [← hs'] at hm'
  obtain ⟨q, z, -⟩ | ⟨hbg, y', z', e1, e2, e3, e4⟩ := hm'.last
  · cases l <;> cases q
  have hz' : z' = y := by
    rw [List.getLast?_append] at e2
    simpa using e2.symm
  have sz1 : ∀ x ∈ l ++ [y], Sz x.dat := fun x hx => by
    rcases List.mem_append.1 hx with q | q
    · exact d.szl x q
    · rw [List.mem_singleton.1 q, hy]; exact hSe
  have sv := (hm'.sz sz1).1
  have ap1 := K.app V0 us d.pu.gd.1
  have ap2 := K.app V0 (us ++ (pushS fs.length (mt fs) clock s y).1) hm'.gd.1
  have hx2 : OO us ++ xs.map EntD.dat = OO (us ++ (pushS fs.length (mt fs) clock s y).1) := by
    rw [List.append_assoc, ap2, ap1, List.append_assoc] at hx
    exact List.append_cancel_left hx
  refine ⟨fun z hz => ?_, hbg, hSe, fun zs x x2 hz h1 h2 => ⟨l ++ [y], m', hm', ?_, ?_, fun _ => ?_, ?_, ?_, d.sz0, ?_⟩, fun hb0 hr => ?_, ?_⟩
  · have : z.dat ∈ OO (us ++ (pushS fs.length (mt fs) clock s y).1) := by rw [← hx2]; exact List.mem_append_right _ (List.mem_map_of_mem hz)
    obtain ⟨v, hv, e⟩ := K.mem _ _ this
    rw [← e]
    exact sv v hv
  · rw [List.map_append, List.map_append, d.li, List.map_cons, List.map_cons, h1, hy]
  · rw [List.map_append, d.out, hz, hx2]
  · rw [h2, ← hy, ← hz']; exact e4
  · rw [h2]; exact hSe
  · intro z hz
    rcases List.mem_append.1 hz with q | q
    · exact d.szi z q
    · rw [List.mem_singleton.1 q, h1]; exact hSe
  · have := d.few
    rw [List.length_append, List.length_singleton]
    omega
  · have hr' : s.last.row ≠ y.row := fun z => hr ((congrArg En.row (d.lla hb0)).trans (z.trans (congrArg En.row hy)))
    obtain ⟨c, hc⟩ := push_new (fs := mt fs) (clock := clock) hE hb0 hr'
    rw [d.out, hx2, hc, ← List.append_assoc]
    obtain ⟨c', hc'⟩ := K.pre (us ++ (resolveS (mt fs) clock s.dat 3).1) c
    exact ⟨c', by rw [hc', K.all d.pu]⟩
  · have e1 := K.len (us ++ (pushS fs.length (mt fs) clock s y).1)
    rw [← hx2, ← d.out, List.length_append, List.length_map, List.length_map] at e1
    have e2 := hm'.few.1
    rw [List.length_append, List.length_append, List.length_singleton] at e2
    rw [List.length_append] at e1
    have hl : l.length = ins.length := by have := congrArg List.length d.li; simpa using this
    have := d.few
    omega
theorem Fdt.ended (K : Kd (mt fs) clock fs.length OO wa) (d : Fdt fs clock OO ins outs la s V0 us l m n) {xs : List EntD} (hx : OO (V0 ++ us) ++ xs.map EntD.dat = OO (V0 ++ us ++ (resolveS (mt fs) clock s.dat 3).1)) :
    (∀ z ∈ xs, Sz z.dat) ∧ outs.map EntD.dat ++ xs.map EntD.dat = wa (m.map EntD.dat) ∧ Fdt fs clock OO [] [] entZ spZ (V0 ++ us ++ (resolveS (mt fs) clock s.dat 3).1) [] [] [] n ∧ outs.length + xs.length ≤ n := by
  have ap1 := K.app V0 us d.pu.gd.1
  have ap2 := K.app V0 (us ++ (resolveS (mt fs) clock s.dat 3).1) d.pu.gd.2
  have hx2 : OO us ++ xs.map EntD.dat = OO (us ++ (resolveS (mt fs) clock s.dat 3).1) := by
    rw [List.append_assoc, ap2, ap1, List.append_assoc] at hx
    exact List.append_cancel_left hx
  have sv := d.pu.sz d.szl
  have all : ∀ v ∈ us ++ (resolveS (mt fs) clock s.dat 3).1, Sz v.e := fun v hv => (List.mem_append.1 hv).elim (sv.1 v) (sv.2 v)
  refine ⟨fun z hz => ?_, by rw [d.out, hx2, K.all d.pu], ⟨.nil, rfl, K.nil.symm, (fun z => by cases z), ?_, (fun x hx => by cases hx), fun v hv => ?_, ?_⟩, ?_⟩
  · have : z.dat ∈ OO (us ++ (resolveS (mt fs) clock s.dat 3).1) := by rw [← hx2]; exact List.mem_append_right _ (List.mem_map_of_mem hz)
    obtain ⟨v, hv, e⟩ := K.mem _ _ this
    rw [← e]
    exact all v hv
  · exact ⟨⟨⟨(fun x hx => by cases hx), (fun x hx => by cases hx), (fun x hx => by cases hx)⟩, by decide, by decide, by decide⟩, by decide, by decide, by decide⟩
  · rw [List.append_assoc] at hv
    exact (List.mem_append.1 hv).elim (d.sz0 v) (all v)
  · have := d.lens.2.2.2.1
    simpa using this
  · have e1 := K.len (us ++ (resolveS (mt fs) clock s.dat 3).1)
    rw [← hx2, ← d.out, List.length_append, List.length_map, List.length_map] at e1
    have := d.lens.2.2.2.1
    simp only [List.length_append] at this e1
    omega
end
end Go.Proofs.Ythhkpkfpifllkaa

namespace Go.Proofs.Ythhkpkfpifllkaa
open Go.RowKit
set_option linter.unusedVariables false
theorem one_rdl {w : World} {e : EntD} (he : EntD.Ok w e) : RdL3 (w.alloc (.cells e.cells 45)) (some ⟨w.heap.size, 0, none⟩) 1 [e] := by
  refine ⟨⟨Nat.le_refl _, by decide⟩, .inr ⟨w.heap.size, 0, rfl, fun i x hi j u hu => ?_⟩, fun x hx => ?_⟩
  · have h0 : i = 0 := by
      cases i with
      | zero => rfl
      | succ i => simp at hi
    subst h0
    cases hi
    have := ent_new w e j u hu
    have e3 : ((⟨w.heap.size, 0, none⟩ : Addr).add j) = ⟨w.heap.size, j, none⟩ := by
      unfold Addr.add
      by_cases hj : j = 0 <;> simp [hj]
    rw [e3] at this
    simpa using this
  · rw [List.mem_singleton.1 hx]
    exact he.later ((Below.refl _ w).alloc (Nat.le_refl _) _)
theorem SpF.mono {W W' : World} {O O' : Nat → Prop} (h : SpF W W' O) (k : ∀ i, i < W.heap.size → O i → O' i) : SpF W W' O' := ⟨h.os, h.tape, h.output, h.size, fun i hi hn => h.block i hi (fun z => hn (k i hi z))⟩
theorem SpF.then {W X Y : World} {O O' : Nat → Prop} (h : SpF W X O) (k : SpF X Y O') (hO : ∀ i, i < W.heap.size → O' i → O i) : SpF W Y O := ⟨k.os.trans h.os, k.tape.trans h.tape, k.output.trans h.output, Nat.le_trans h.size k.size, fun i hi hn => (k.block i (Nat.lt_of_lt_of_le hi h.size) (fun z => hn (hO i hi z))).trans (h.block i hi hn)⟩
theorem rdl_cells7 {w : World} {gL c : Nat} {y : EntD} (h : RdL3 w (some ⟨gL, 0, none⟩) c [y]) : w.cell? ⟨gL, 0, none⟩ = some y.vr ∧ w.cell? ⟨gL, 1, none⟩ = some (.int .i64 y.fam) ∧ w.cell? ⟨gL, 2, none⟩ = some y.vq ∧ w.cell? ⟨gL, 3, none⟩ = some (.int .i64 y.ts) ∧ w.cell? ⟨gL, 4, none⟩ = some (.int .i64 y.seq) ∧ w.cell? ⟨gL, 5, none⟩ = some (.int .i64 y.kind) ∧ w.cell? ⟨gL, 6, none⟩ = some y.vv := by
  rcases h.at_ with z | ⟨b, off, e1, hc⟩
  · cases z
  · cases e1
    have q := fun j u hj => hc 0 y rfl j u hj
    exact ⟨q 0 _ rfl, q 1 _ rfl, q 2 _ rfl, q 3 _ rfl, q 4 _ rfl, q 5 _ rfl, q 6 _ rfl⟩
theorem Vw.rdk {W w w' : World} {zs : List EntD} {a : Option Addr} {c : Nat} {p : List En} (h : Vw W w zs (.slice a zs.length c) p) (kk : ∀ g, W.heap.size ≤ g → g < w.heap.size → w'.heap[g]? = w.heap[g]?) : RdL3 w' a c zs := by
  have row := row_same h.row (fun g hg => kk g (h.row.lt g hg).1 (h.row.lt g hg).2)
  have ents : ∀ x ∈ zs, O3 w' W.heap.size x := fun x hx => (h.ents x hx).keepO (fun g hg => by
    have := (h.ents x hx).lt g hg
    exact kk g this.1 this.2)
  obtain ⟨a', c', e, hr⟩ := row_rdl row (fun x hx => (ents x hx).okB (h.by_ x hx))
  cases e
  exact hr
theorem and_of {a b : Bool} (h : true = (a && !b)) : a = true ∧ b = false := by cases a <;> cases b <;> simp_all
theorem grownQ {a b c : World} {q : Nat} (h : a.grownBy b (some q)) (k : b.grownBy c (some q)) : a.grownBy c (some q) := ⟨k.os.trans h.os, k.tape.trans h.tape, k.output.trans h.output, Nat.le_trans h.size k.size, fun i hi hn => (k.block i (Nat.lt_of_lt_of_le hi h.size) hn).trans (h.block i hi hn)⟩
end Go.Proofs.Ythhkpkfpifllkaa

namespace Go.Proofs.Ythhkpkfpifllkaa
open Go.RowKit
set_option linter.unusedVariables false

abbrev Tv (A : Act) (x : Nat) (v : Value) : Prop := A.tmps[x]?.getD undef = v
theorem tn {A B : Act} {d x : Nat} {v u : Value} (e : B = A.put (some d) v) (h : x ≠ d) (k : Tv A x u) : Tv B x u := by rw [e]; exact put_ne h k
theorem te {A B : Act} {d n : Nat} {v : Value} (e : B = A.put (some d) v) (hs : A.tmps.size = n) (h : d < n) : Tv B d v := by rw [e]; exact put_eq hs h
theorem tz {A B : Act} {d n : Nat} {v : Value} (e : B = A.put (some d) v) (hs : A.tmps.size = n) : B.tmps.size = n := by rw [e]; exact put_sz hs
section
variable {P : Program} {ops : Array Oper} {Q : Exit → Act → World → Prop} {md : Region.Mode} {S : World → Prop} {E : Nat → Bool}
theorem AnyE.tk {i : Nat} {oi : Oper} {fuel : Nat} {listed : Array Bool} {a : Act} {w : World} (v : Value) (hi : ops[i]? = some oi) (hb : (Region.noSelect ops && (Region.free md ops listed i && (eFree md ops listed i E && (Region.ready md ops listed).contains i))) = true) (hQ : ∀ c a w, Q (.panic c) (a.put oi.dst v) w → Q (.panic c) a w) (hg : Region.wanted oi (yielded ops a.tmps) = true) (hy : ∀ wq, S wq → (execOp a.eval oi).run P wq = .ok (.value v) wq) (hS : S w) (h : AnyE P md ops Q S E fuel (listed.setIfInBounds i true) (a.put oi.dst v) w) : AnyE P md ops Q S E (fuel + 1) listed a w := by
  simp only [Bool.and_eq_true] at hb
  exact AnyE.take v hi hb.1 hb.2.1 hb.2.2.1 hb.2.2.2 hQ (.inl ⟨hg, hy⟩) hS h
end
end Go.Proofs.Ythhkpkfpifllkaa

namespace Go.Proofs.Ythhkpkfpifllkaa
open Go.RowKit
set_option linter.unusedVariables false

def KBx (w : World) (g : Nat) (vE vG vB vH : Value) (tl : List Value) (ty : TypeId) : Prop := w.heap[g]? = some (.cells (vE :: vG :: vB :: vH :: Value.slice none 0 0 :: tl).toArray ty (0, 0))
section
variable {w w' : World} {g : Nat} {vE vG vB vH : Value} {tl : List Value} {ty : TypeId}
theorem KBx.lt (h : KBx w g vE vG vB vH tl ty) : g < w.heap.size := (Array.getElem?_eq_some_iff.1 h).1
theorem KBx.keep (h : KBx w g vE vG vB vH tl ty) (k : w'.heap[g]? = w.heap[g]?) : KBx w' g vE vG vB vH tl ty := k.trans h
theorem KBx.c0 (h : KBx w g vE vG vB vH tl ty) : w.cell? ⟨g, 0, none⟩ = some vE := by unfold KBx at h; simp [World.cell?, h]
theorem KBx.c1 (h : KBx w g vE vG vB vH tl ty) : w.cell? ⟨g, 1, none⟩ = some vG := by unfold KBx at h; simp [World.cell?, h]
theorem KBx.c2 (h : KBx w g vE vG vB vH tl ty) : w.cell? ⟨g, 2, none⟩ = some vB := by unfold KBx at h; simp [World.cell?, h]
theorem KBx.c3 (h : KBx w g vE vG vB vH tl ty) : w.cell? ⟨g, 3, none⟩ = some vH := by unfold KBx at h; simp [World.cell?, h]
theorem KBx.fz (h : KBx w g vE vG vB vH tl ty) (i : Nat) : w.frozen? ⟨g, i, none⟩ = false := by unfold KBx at h; simp [World.frozen?, h]
theorem KBx.setE (h : KBx w g vE vG vB vH tl ty) (u : Value) : KBx (w.setCell ⟨g, 0, none⟩ u) g u vG vB vH tl ty := by unfold KBx at *; simp [World.setCell, Array.getElem?_modify, h]
theorem KBx.setG (h : KBx w g vE vG vB vH tl ty) (u : Value) : KBx (w.setCell ⟨g, 1, none⟩ u) g vE u vB vH tl ty := by unfold KBx at *; simp [World.setCell, Array.getElem?_modify, h]
theorem KBx.setB (h : KBx w g vE vG vB vH tl ty) (u : Value) : KBx (w.setCell ⟨g, 2, none⟩ u) g vE vG u vH tl ty := by unfold KBx at *; simp [World.setCell, Array.getElem?_modify, h]
theorem KBx.setH (h : KBx w g vE vG vB vH tl ty) (u : Value) : KBx (w.setCell ⟨g, 3, none⟩ u) g vE vG vB u tl ty := by unfold KBx at *; simp [World.setCell, Array.getElem?_modify, h]
theorem KBx.tyd (h : KBx w g vE vG vB vH tl ty) : Tyd w g ty := ⟨_, _, h⟩
end
set_option maxRecDepth 100000 in
theorem op_fieldB2 {a : Act} {w : World} {x g : Nat} {d : Option Nat} {ps : String} {af : Array Edge} (hx : a.tmps[x]?.getD undef = .pointer (some ⟨g, 0, none⟩)) :
    (execOp a.eval { dst := d, op := Op.fieldAddr 33 (Operand.tmp x) 2, type := 0, pos := ps, after := af, guard := none }).run Try.prog w = .ok (.value (.pointer (some ⟨g, 2, none⟩))) w := by
  go_simp
set_option maxRecDepth 100000 in
theorem wp_fieldB2 {a : Act} {w : World} {K : Act → World → Prop} {Q : Exit → Act → World → Prop} {x g : Nat} {d : Option Nat} {ps : String} {af : Array Edge} (hx : a.tmps[x]?.getD undef = .pointer (some ⟨g, 0, none⟩)) (hk : K (a.put d (.pointer (some ⟨g, 2, none⟩))) w) :
    Oper.wp Try.prog { dst := d, op := Op.fieldAddr 33 (Operand.tmp x) 2, type := 0, pos := ps, after := af, guard := none } a w K Q := by
  go_simp
  exact hk
set_option maxRecDepth 100000 in
theorem op_loadP {a : Act} {w : World} {x g n c j : Nat} {ad : Option Addr} {d : Option Nat} {ps : String} {af : Array Edge} (hx : a.tmps[x]?.getD undef = .pointer (some ⟨g, j, none⟩)) (h : w.cell? ⟨g, j, none⟩ = some (.slice ad n c)) :
    (execOp a.eval { dst := d, op := Op.load 30 (Operand.tmp x), type := 30, pos := ps, after := af, guard := none }).run Try.prog w = .ok (.value (.slice ad n c)) w := by
  go_simp
set_option maxRecDepth 100000 in
theorem op_loadY {a : Act} {w : World} {x g j : Nat} {v : Value} {d : Option Nat} {ps : String} {af : Array Edge} (hx : a.tmps[x]?.getD undef = .pointer (some ⟨g, j, none⟩)) (h : w.cell? ⟨g, j, none⟩ = some v) :
    (execOp a.eval { dst := d, op := Op.load 43 (Operand.tmp x), type := 43, pos := ps, after := af, guard := none }).run Try.prog w = .ok (.value v) w := by
  go_simp
set_option maxRecDepth 100000 in
theorem op_indexE {a : Act} {w : World} {x y b o n c t : Nat} {d : Option Nat} {ps : String} {af : Array Edge} (hx : a.tmps[x]?.getD undef = .slice (some ⟨b, o, none⟩) n c) (hy : a.tmps[y]?.getD undef = .int .i64 (t : Int)) (ht : t < n) :
    (execOp a.eval { dst := d, op := Op.indexAddr 25 (Operand.tmp x) (Operand.tmp y), type := 0, pos := ps, after := af, guard := none }).run Try.prog w = .ok (.value (.pointer (some ⟨b, o + t * 7, none⟩))) w := by
  have h1 : (t : Int) < (n : Int) := by omega
  have h0 : (0 : Int) ≤ (t : Int) := by omega
  go_simp
set_option maxRecDepth 100000 in
theorem op_fieldE0 {a : Act} {w : World} {x g j : Nat} {d : Option Nat} {ps : String} {af : Array Edge} (hx : a.tmps[x]?.getD undef = .pointer (some ⟨g, j, none⟩)) :
    (execOp a.eval { dst := d, op := Op.fieldAddr 45 (Operand.tmp x) 0, type := 0, pos := ps, after := af, guard := none }).run Try.prog w = .ok (.value (.pointer (some ⟨g, j, none⟩))) w := by
  go_simp
set_option maxRecDepth 100000 in
theorem op_fieldE2 {a : Act} {w : World} {x g j : Nat} {d : Option Nat} {ps : String} {af : Array Edge} (hx : a.tmps[x]?.getD undef = .pointer (some ⟨g, j, none⟩)) :
    (execOp a.eval { dst := d, op := Op.fieldAddr 45 (Operand.tmp x) 2, type := 0, pos := ps, after := af, guard := none }).run Try.prog w = .ok (.value (.pointer (some ⟨g, j + 2, none⟩))) w := by
  go_simp
set_option maxRecDepth 100000 in
theorem op_fieldE6 {a : Act} {w : World} {x g j : Nat} {d : Option Nat} {ps : String} {af : Array Edge} (hx : a.tmps[x]?.getD undef = .pointer (some ⟨g, j, none⟩)) :
    (execOp a.eval { dst := d, op := Op.fieldAddr 45 (Operand.tmp x) 6, type := 0, pos := ps, after := af, guard := none }).run Try.prog w = .ok (.value (.pointer (some ⟨g, j + 6, none⟩))) w := by
  go_simp
end Go.Proofs.Ythhkpkfpifllkaa

namespace Go.Proofs.Ythhkpkfpifllkaa
open Go.RowKit
set_option linter.unusedVariables false

set_option maxRecDepth 100000 in
theorem wp_build3 {a : Act} {w : World} {K : Act → World → Prop} {Q : Exit → Act → World → Prop} {p q r n0 n1 n2 c0 c1 c2 : Nat} {a0 a1 a2 : Option Addr} {d : Option Nat} {ps : String} {af : Array Edge} (h0 : a.tmps[p]?.getD undef = .slice a0 n0 c0) (h1 : a.tmps[q]?.getD undef = .slice a1 n1 c1) (h2 : a.tmps[r]?.getD undef = .slice a2 n2 c2) (hk : K (a.put d (.slice (some ⟨w.heap.size, 0, none⟩) 3 3)) (w.alloc (.cells #[.slice a0 n0 c0, .slice a1 n1 c1, .slice a2 n2 c2] 43))) :
    Oper.wp Try.prog { dst := d, op := Op.buildSlice 30 3 #[(0, Operand.tmp p), (1, Operand.tmp q), (2, Operand.tmp r)], type := 30, pos := ps, after := af, guard := none } a w K Q := by
  go_simp
  exact hk
set_option maxRecDepth 100000 in
theorem wp_storeP {a : Act} {w : World} {K : Act → World → Prop} {Q : Exit → Act → World → Prop} {p q g n c j : Nat} {a' : Option Addr} {y : Value} {ps : String} {af : Array Edge} (hc : w.cell? ⟨g, j, none⟩ = some y) (hf : w.frozen? ⟨g, j, none⟩ = false) (hp : a.tmps[p]?.getD undef = .pointer (some ⟨g, j, none⟩)) (hq : a.tmps[q]?.getD undef = .slice a' n c) (hk : K a (w.setCell ⟨g, j, none⟩ (.slice a' n c))) :
    Oper.wp Try.prog { dst := none, op := Op.store 30 (Operand.tmp p) (Operand.tmp q), type := 0, pos := ps, after := af, guard := none } a w K Q := by
  go_simp
  exact hk
theorem wp_append_w3 {w : World} {N : Nat} {v u1 u2 u3 : Value} {us : List Value} {o : Oper} {a : Act} {K : Act → World → Prop} {Q : Exit → Act → World → Prop} (s y : Operand)
    (ho : o.op = .call { callee := .builtin .append, args := #[s, y], argTypes := #[30, 30] })
    (hs : a.eval s = v) (hr : w.ownsRow N 43 1 v us.length us) (h1 : u1.oneCell' = true) (h2 : u2.oneCell' = true) (h3 : u3.oneCell' = true) (hy : a.eval y = .slice (some ⟨w.heap.size, 0, none⟩) 3 3) (hn : us.length + 3 ≤ 5864062014805) (hN : N ≤ w.heap.size)
    (h : ∀ a' n' c' w', n' = (us ++ [u1, u2, u3]).length → w'.ownsRow N 43 1 (.slice a' n' c') (us ++ [u1, u2, u3]).length (us ++ [u1, u2, u3]) → (w.alloc (.cells #[u1, u2, u3] 43)).grownBy w' v.ownBlock → (∀ k, (Value.slice a' n' c').ownBlock = some k → v.ownBlock = some k ∨ w.heap.size + 1 ≤ k) → K (a.put o.dst (.slice a' n' c')) w') : Oper.wp Try.prog o a (w.alloc (.cells #[u1, u2, u3] 43)) K Q := by
  obtain ⟨i0, hi, hz0, hz1, hz2⟩ := info_parts (show (Try.prog.info? 43).map (fun i => (i.zero, i.size, i.bytes)) = some (some (.slice none 0 0), 1, 24) by kernel_rfl)
  obtain ⟨v', w', hrn, k1, k2, k3, k4⟩ := run_append_own_at (P := Try.prog) (w.alloc (.cells #[u1, u2, u3] 43)) N 30 o.type 43 i0 (.slice none 0 0) 1 24 (by kernel_rfl) hi hz0 hz1 hz2 rfl (by decide) v us.length us (hr.alloc _) ⟨w.heap.size, 0, none⟩ 3 3 [u1, u2, u3] rfl (fun j u hj => by
    have hn := heap_new w (.cells #[u1, u2, u3] 43)
    have e3 : ((⟨w.heap.size, 0, none⟩ : Addr).add j) = ⟨w.heap.size, j, none⟩ := by
      unfold Addr.add
      by_cases hj : j = 0 <;> simp [hj]
    rw [e3]
    have e2 : (w.alloc (.cells #[u1, u2, u3] 43)).heap[w.heap.size]? = some (.cells #[u1, u2, u3] 43 (0, 0)) := hn
    simp only [World.cell?, e2]
    simpa using hj) (fun u hu => by
    simp only [List.mem_cons, List.not_mem_nil, or_false] at hu
    rcases hu with rfl | rfl | rfl
    · exact h1
    · exact h2
    · exact h3) (by unfold maxLen; omega) (by omega) (by rw [World.size_alloc]; omega)
  have k1' : w'.ownsRow N 43 1 v' (us ++ [u1, u2, u3]).length (us ++ [u1, u2, u3]) := by rw [List.length_append]; exact k1
  obtain ⟨a', c', rfl⟩ := row_formW k1'
  unfold Oper.wp execOp
  rw [ho]
  simp only [resolve, invoke, builtin, Sem.run_bind, Sem.run_pure, Result.andThen_ok, List.map_toArray, List.map_cons, List.map_nil, hs, hy, hrn]
  refine h a' _ c' w' rfl k1' k2 (fun k hk => ?_)
  rcases k4 with k4 | k4
  · rw [k4] at hk; exact .inl hk
  · rw [k4, World.size_alloc] at hk
    cases hk
    exact .inr (Nat.le_refl _)
set_option maxRecDepth 100000 in
theorem wpl_append_l1 {w : World} {ops : Array Oper} {rest : List Oper} {o : Oper} {a : Act} {Q : Exit → Act → World → Prop} (hgd : o.guard = none) (s x : Operand)
    (ho : o.op = .call { callee := .builtin .append, args := #[s, x], argTypes := #[29, 29] })
    (B : Nat) (v : Value) (us : List Value) (hs : a.eval s = v) (hown : w.ownsRow B 25 1 v us.length us)
    (u1 : Value) (h1 : u1.oneCell' = true) (hx : a.eval x = .slice (some ⟨w.heap.size, 0, none⟩) 1 1) (hm : us.length + 1 ≤ 5864062014805) (hB : B ≤ w.heap.size)
    (h : ∀ a' n' c' w', n' = (us ++ [u1]).length → w'.ownsRow B 25 1 (.slice a' n' c') (us ++ [u1]).length (us ++ [u1]) → (w.alloc (.cells #[u1] 25)).grownBy w' v.ownBlock → (∀ k, (Value.slice a' n' c').ownBlock = some k → v.ownBlock = some k ∨ w.heap.size + 1 ≤ k) → wpList Try.prog ops Q rest (a.put o.dst (.slice a' n' c')) w') : wpList Try.prog ops Q (o :: rest) a (w.alloc (.cells #[u1] 25)) := by
  obtain ⟨i0, hi, hz0, hz1, hz2⟩ := info_parts (show (Try.prog.info? 25).map (fun i => (i.zero, i.size, i.bytes)) = some (some (.slice none 0 0), 1, 24) by kernel_rfl)
  refine wpList_append_own_at _ hgd s x 29 ho B 25 i0 (.slice none 0 0) 1 24 (by kernel_rfl) hi hz0 hz1 hz2 rfl (by decide) v us.length us hs (hown.alloc _) ⟨w.heap.size, 0, none⟩ 1 1 [u1] hx rfl (fun j u hj => ?_) (fun u hu => ?_) (by unfold maxLen; omega) (by omega) (by rw [World.size_alloc]; omega) ?_
  · have hn := heap_new w (.cells #[u1] 25)
    have e3 : ((⟨w.heap.size, 0, none⟩ : Addr).add j) = ⟨w.heap.size, j, none⟩ := by
      unfold Addr.add
      by_cases hj : j = 0 <;> simp [hj]
    rw [e3]
    have e2 : (w.alloc (.cells #[u1] 25)).heap[w.heap.size]? = some (.cells #[u1] 25 (0, 0)) := hn
    simp only [World.cell?, e2]
    simpa using hj
  · rw [List.mem_singleton.1 hu]; exact h1
  · intro v' w' k1 k2 k3 k4
    have k1' : w'.ownsRow B 25 1 v' (us ++ [u1]).length (us ++ [u1]) := by rw [List.length_append]; exact k1
    obtain ⟨a', c', rfl⟩ := row_formW k1'
    refine h a' _ c' w' rfl k1' k2 (fun k hk => ?_)
    rcases k4 with k4 | k4
    · rw [k4] at hk; exact .inl hk
    · rw [k4, World.size_alloc] at hk
      cases hk
      exact .inr (Nat.le_refl _)
def flat3 (xs : List EntD) : List Value := (xs.map fun x => [x.vr, x.vq, x.vv]).flatten
theorem flat3_take {xs : List EntD} {t : Nat} {x : EntD} (h : xs[t]? = some x) : flat3 (xs.take (t + 1)) = flat3 (xs.take t) ++ [x.vr, x.vq, x.vv] := by
  have ht : t < xs.length := (List.getElem?_eq_some_iff.1 h).1
  rw [List.take_add_one, h]
  simp [flat3]
theorem flat3_len (xs : List EntD) : (flat3 xs).length = 3 * xs.length := by
  induction xs with
  | nil => rfl
  | cons x xs ih => simp only [flat3, List.map_cons, List.flatten_cons, List.length_append, List.length_cons, List.length_nil] at *; omega

end Go.Proofs.Ythhkpkfpifllkaa
