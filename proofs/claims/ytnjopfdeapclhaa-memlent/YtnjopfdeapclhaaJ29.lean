import Derived.Test.YtnjopfdeapclhaaJ28
import Derived.Deep.RegionHeld3
namespace Go.Proofs.Ytnjopfdeapclhaa
open Go.RowKit
set_option linter.unusedVariables false

theorem LaidE.far {w w' : World} {B : Nat} {D : EntD} {o : Option Nat} (h : LaidE w B D) (k : w.grownBy w' o) {b : Nat} (hb : ∀ g, o = some g → b ≤ g) (hl : ∀ g, D.vr.ownBlock = some g ∨ D.vq.ownBlock = some g ∨ D.vv.ownBlock = some g → g < b) : LaidE w' B D :=
  ⟨h.1.far k (fun g hg e => by have := hb g hg; have := hl g (.inl e); omega), h.2.1.far k (fun g hg e => by have := hb g hg; have := hl g (.inr (.inl e)); omega), h.2.2.far k (fun g hg e => by have := hb g hg; have := hl g (.inr (.inr e)); omega)⟩
theorem LaidE.lt {w : World} {B : Nat} {D : EntD} (h : LaidE w B D) : ∀ g, D.vr.ownBlock = some g ∨ D.vq.ownBlock = some g ∨ D.vv.ownBlock = some g → g < w.heap.size := by
  obtain ⟨⟨g1, c1, e1, _, _, o1⟩, ⟨g2, c2, e2, _, _, o2⟩, ⟨g3, c3, e3, _, _, o3⟩⟩ := h
  intro g hg
  rw [e1, e2, e3] at hg
  rcases hg with hg | hg | hg
  · exact (o1.2.lt g hg).2
  · exact (o2.2.lt g hg).2
  · exact (o3.2.lt g hg).2

theorem EBox.far {w w' : World} {g : Nat} {e : EntD} {o : Option Nat} (h : EBox w g e) (k : w.grownBy w' o) (hne : ∀ x, o = some x → g ≠ x) : EBox w' g e := by
  unfold EBox at *
  rw [k.block g (Array.getElem?_eq_some_iff.1 h).1 (fun e => hne g e.symm rfl)]
  exact h
theorem ebox_own {w : World} {B m g x : Nat} {v : Value} {xs : List Nat} {e : EntD} (h : EBox w g e) (o : Own w B v m xs) (hx : v.ownBlock = some x) : g ≠ x := by
  rintro rfl
  rcases o.2.2 with ⟨h1, _⟩ | ⟨g2, cap, cur, h3, _, h5, _⟩
  · rw [h1] at hx; cases hx
  · rw [h3] at hx
    simp only [Value.ownBlock, Option.some.injEq] at hx
    subst hx
    unfold EBox at h
    rw [h5] at h
    simp at h
/-- What the law's middle holds. -/
structure KeysMid (w0 w : World) (q1 q2 : Nat) (D1 D2 : EntD) (K P : List Nat) (b1 b2 b3 b4 b5 : Nat) (vb vw vp vv : Value) (mb mw mp mv : Nat) : Prop where
  e1 : EBox w q1 D1
  e2 : EBox w q2 D2
  l1 : LaidE w w0.heap.size D1
  l2 : LaidE w w0.heap.size D2
  n1 : ∀ g, D1.vr.ownBlock = some g ∨ D1.vq.ownBlock = some g ∨ D1.vv.ownBlock = some g → g < b1
  n2 : ∀ g, D2.vr.ownBlock = some g ∨ D2.vq.ownBlock = some g ∨ D2.vv.ownBlock = some g → g < b1
  ob : Own w b1 vb mb K
  ow : Own w b2 vw mw K
  op : Own w b3 vp mp P
  ov : Own w b4 vv mv P
  ib : ∀ g, vb.ownBlock = some g → b1 ≤ g ∧ g < b2
  iw : ∀ g, vw.ownBlock = some g → b2 ≤ g ∧ g < b3
  ip : ∀ g, vp.ownBlock = some g → b3 ≤ g ∧ g < b4
  iv : ∀ g, vv.ownBlock = some g → b4 ≤ g ∧ g < b5
  bs : w0.heap.size ≤ b1 ∧ b1 ≤ b2 ∧ b2 ≤ b3 ∧ b3 ≤ b4 ∧ b4 ≤ b5 ∧ b5 ≤ w.heap.size
  bel : Below w0.heap.size w0 w
theorem KeysMid.later {w0 w w' : World} {q1 q2 : Nat} {D1 D2 : EntD} {K P : List Nat} {b1 b2 b3 b4 b5 : Nat} {vb vw vp vv : Value} {mb mw mp mv : Nat} (h : KeysMid w0 w q1 q2 D1 D2 K P b1 b2 b3 b4 b5 vb vw vp vv mb mw mp mv) (hb : Below w.heap.size w w') : KeysMid w0 w' q1 q2 D1 D2 K P b1 b2 b3 b4 b5 vb vw vp vv mb mw mp mv :=
  ⟨h.e1.later hb, h.e2.later hb, h.l1.later hb, h.l2.later hb, h.n1, h.n2, h.ob.later hb, h.ow.later hb, h.op.later hb, h.ov.later hb, h.ib, h.iw, h.ip, h.iv, ⟨h.bs.1, h.bs.2.1, h.bs.2.2.1, h.bs.2.2.2.1, h.bs.2.2.2.2.1, Nat.le_trans h.bs.2.2.2.2.2 hb.size⟩, h.bel.trans (hb.mono h.bel.size)⟩

end Go.Proofs.Ytnjopfdeapclhaa

namespace Go.Proofs.Ytnjopfdeapclhaa
open Go.RowKit
set_option linter.unusedVariables false

/-- What bytes say of an entry: an entry and an error. -/
def Det (bs : List Nat) (D : EntD) (E : Nat) : Prop := (E = 0 ∧ checkS D = 0 ∧ keyL D = bs ∧ D.val = []) ∨ (¬ IsKey bs ∧ E = 27 ∧ D.fam = 0 ∧ D.ts = 0 ∧ D.seq = 0 ∧ D.kind = 0 ∧ D.row = [] ∧ D.qual = [] ∧ D.val = [])
theorem Det.same {bs : List Nat} {D D' : EntD} {E E' : Nat} (h : Det bs D E) (k : Det bs D' E') : E = E' ∧ EntD.Same D D' := by
  rcases h with ⟨h1, h2, h3, h4⟩ | ⟨h0, h1, h2, h3, h4, h5, h6, h7, h8⟩ <;> rcases k with ⟨k1, k2, k3, k4⟩ | ⟨k0, k1, k2, k3, k4, k5, k6, k7, k8⟩
  · obtain ⟨a, b, c, d, e, f⟩ := key_same h2 k2 (h3.trans k3.symm)
    exact ⟨h1.trans k1.symm, a, b, c, d, e, f, h4.trans k4.symm⟩
  · exact absurd ⟨D, h2, h4, h3⟩ k0
  · exact absurd ⟨D', k2, k4, k3⟩ h0
  · exact ⟨h1.trans k1.symm, h2.trans k2.symm, h3.trans k3.symm, h4.trans k4.symm, h5.trans k5.symm, h6.trans k6.symm, h7.trans k7.symm, h8.trans k8.symm⟩
/-- An entry that owns its row and its qualifier, apart from one another. -/
structure OwnE (w : World) (b : Nat) (D : EntD) : Prop where
  br : Bys D.row ∧ D.row.length ≤ 256
  bq : Bys D.qual ∧ D.qual.length ≤ 256
  vv : D.vv = .slice none 0 0 ∧ D.val = []
  row : Own w b D.vr D.row.length D.row
  qual : Own w b D.vq D.qual.length D.qual
  apart : ∀ k, D.vr.ownBlock = some k → D.vq.ownBlock ≠ some k
theorem OwnE.later {w w' : World} {b : Nat} {D : EntD} (h : OwnE w b D) (hb : Below w.heap.size w w') : OwnE w' b D := ⟨h.br, h.bq, h.vv, h.row.later hb, h.qual.later hb, h.apart⟩
theorem OwnE.ok {w : World} {b : Nat} {D : EntD} (h : OwnE w b D) : EntD.Ok w D :=
  ⟨h.row.rd h.br.1 (by have := h.br.2; omega), h.qual.rd h.bq.1 (by have := h.bq.2; omega), by rw [h.vv.1, h.vv.2]; exact Rd.nil _⟩
theorem ParsedAs.own {w w' : World} {r : Ending} {bs : List Nat} (h : ParsedAs w w' r bs) : ∃ D E, r = .returned (.tuple #[.agg D.cells, .int .i64 ((E : Nat) : Int)]) ∧ Det bs D E ∧ OwnE w' w.heap.size D ∧ Below w.heap.size w w' := by
  obtain ⟨hb, ⟨D, h1, h2, h3, h4, h5, h6, h7, h8, B, h9, h10, h11⟩ | ⟨h1, h2⟩⟩ := h
  · have f := check_facts h1
    refine ⟨D, 0, h7, .inl ⟨rfl, h1, h3, h2⟩, ⟨⟨h4, f.1.2⟩, ⟨h5, f.2.2.1⟩, ⟨h6, h2⟩, h8, h10.mono h9, fun k hk he => ?_⟩, hb⟩
    have := h11 k hk
    have := (h10.2.lt k he).1
    omega
  · refine ⟨zeroD, 27, h2, .inr ⟨h1, rfl, rfl, rfl, rfl, rfl, rfl, rfl, rfl⟩, ⟨⟨fun x hx => by simp [zeroD] at hx, by simp [zeroD]⟩, ⟨fun x hx => by simp [zeroD] at hx, by simp [zeroD]⟩, ⟨rfl, rfl⟩, own_nil _ _, own_nil _ _, fun k hk he => by cases hk⟩, hb⟩
/-- It stays as it was while other memory grows. -/
theorem OwnE.far {w w' : World} {b : Nat} {D : EntD} {o : Option Nat} (h : OwnE w b D) (k : w.grownBy w' o) (hne : ∀ g, o = some g → g < b) : OwnE w' b D :=
  ⟨h.br, h.bq, h.vv, h.row.far k (fun g hg e => by have := hne g hg; have := (h.row.2.lt g e).1; omega), h.qual.far k (fun g hg e => by have := hne g hg; have := (h.qual.2.lt g e).1; omega), h.apart⟩

theorem Marked.later {w0 w w' : World} {l : Value} {G mk : Nat} (h : Marked w0 w l G mk) (hb : Below w.heap.size w w') : Marked w0 w' l G mk := ⟨h.1, fun i hi => by
  obtain ⟨a, k, c, h1, h2, h3⟩ := h.2 i hi
  exact ⟨a, k, c, by rw [hb.cell (p := ⟨G, i, none⟩) (World.block_lt_of_cell? w _ h1)]; exact h1, h2.later hb, h3⟩⟩
theorem Marked.still {w0 w w' : World} {l : Value} {G mk : Nat} {o : Option Nat} (h : Marked w0 w l G mk) (k : w.grownBy w' o) (ho : ∀ g, o = some g → g < w0.heap.size ∧ l.ownBlock ≠ some g) : Marked w0 w' l G mk := ⟨h.1, fun i hi => by
  obtain ⟨a, kk, c, h1, h2, h3⟩ := h.2 i hi
  refine ⟨a, kk, c, ?_, ?_, h3⟩
  · refine k.cell h1 ?_
    intro e
    have := (ho G e.symm).1
    have := h.1
    omega
  · obtain ⟨q1, a', cap, q2, q3, q4, q5, q6, q7⟩ := h2
    refine ⟨q1, a', cap, q2, q3, q4, q5, q6, ?_⟩
    rcases q7 with q7 | ⟨b, off, rfl, hc⟩
    · exact .inl q7
    · refine .inr ⟨b, off, rfl, fun j hj => k.cell (hc j hj) ?_⟩
      intro e
      obtain ⟨e1, e2⟩ := ho b e.symm
      simp only [Value.slice.injEq] at q2
      rw [q2.1] at h3
      rcases h3 with h3 | h3
      · exact e2 (by rw [← h3]; rfl)
      · have := h3 b rfl
        omega⟩
theorem filled_grown (w : World) (g : Nat) (D : EntD) : w.grownBy (filled w g D) (some g) := by
  have a := filled_apart w g D
  exact ⟨a.os, a.tape, a.output, a.size, fun i hi hne => a.block i hi (fun e => hne (by rw [e]))⟩
theorem OwnE.fill {w : World} {b g : Nat} {D E : EntD} (h : OwnE w b D) (hg : g < b) : OwnE (filled w g E) b D := ⟨h.br, h.bq, h.vv, h.row.fillo hg, h.qual.fillo hg, h.apart⟩
theorem Laid.fillB {w : World} {B g : Nat} {u : Value} {bs : List Nat} {D0 E : EntD} (h : Laid w B u bs) (hg : EBox w g D0) : Laid (filled w g E) B u bs := by
  obtain ⟨g2, c, h1, h2, h3, h4⟩ := h
  exact ⟨g2, c, h1, h2, h3, h4.apartE hg (filled_apart _ _ _)⟩

end Go.Proofs.Ytnjopfdeapclhaa
