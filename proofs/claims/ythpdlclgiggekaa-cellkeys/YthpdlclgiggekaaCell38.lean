import Derived.Test.YthpdlclgiggekaaCell32
import Derived.Deep.RegionHeld3
namespace Go.Proofs.Ythpdlclgiggekaa
open Go.RowKit
set_option linter.unusedVariables false
theorem ebox_lt {w : World} {g : Nat} {e : EntD} (h : EBox w g e) : g < w.heap.size := (Array.getElem?_eq_some_iff.1 h).1
theorem ebox_ne {w : World} {g : Nat} {e : EntD} (h : EBox w g e) : g ≠ w.heap.size := by have := ebox_lt h; omega
theorem ne_of_lt_le {a b c : Nat} (h : a < b) (k : b ≤ c) : a ≠ c := by omega
theorem LaidE.fillE {w : World} {B g : Nat} {D D0 E : EntD} (h : LaidE w B D) (hg : EBox w g D0) : LaidE (filled w g E) B D := by
  have f : ∀ u bs, Laid w B u bs → Laid (filled w g E) B u bs := by
    rintro u bs ⟨g2, c, h1, h2, h3, h4⟩
    exact ⟨g2, c, h1, h2, h3, h4.apartE hg (filled_apart _ _ _)⟩
  exact ⟨f _ _ h.1, f _ _ h.2.1, f _ _ h.2.2⟩
set_option maxRecDepth 100000 in
theorem wp_alloc_entry {a : Act} {w : World} {K : Act → World → Prop} {Q : Exit → Act → World → Prop} {d : Option Nat} {ps : String} {af : Array Edge} (h : K (a.put d (.pointer (some ⟨w.heap.size, 0, none⟩))) (w.alloc (.cells zeroD.cells 35))) :
    Oper.wp Try.prog { dst := d, op := Op.alloc 35, type := 0, pos := ps, after := af, guard := none } a w K Q := by
  go_simp
  exact h
set_option maxRecDepth 100000 in
theorem wp_store_entry {a : Act} {w : World} {K : Act → World → Prop} {Q : Exit → Act → World → Prop} {ps : String} {af : Array Edge} {p v : Nat} {b B : Nat} {wz : World} {D0 D : EntD} (hb : EBox w b D0) (hl : LaidE wz B D) (hp : a.tmps[p]?.getD undef = .pointer (some ⟨b, 0, none⟩)) (hv : a.tmps[v]?.getD undef = .agg D.cells) (h : K a (filled w b D)) :
    Oper.wp Try.prog { dst := none, op := Op.store 35 (Operand.tmp p) (Operand.tmp v), type := 0, pos := ps, after := af, guard := none } a w K Q := by
  obtain ⟨c0, c1, c2, c3, c4, c5, c6⟩ := hb.cells7
  obtain ⟨f0, f1, f2, f3, f4, f5, f6⟩ := hb.fz7
  obtain ⟨i1, i2, i3, e1⟩ := hl.1.form
  obtain ⟨j1, j2, j3, e2⟩ := hl.2.1.form
  obtain ⟨k1, k2, k3, e3⟩ := hl.2.2.form
  clear hl hb
  obtain ⟨vr, fam, vq, ts, seq, kind, vv, row, qual, val⟩ := D
  simp only at e1 e2 e3
  subst e1 e2 e3
  simp only [EntD.cells] at hv
  simp only [filled] at h
  go_simp
  exact h
set_option maxRecDepth 100000 in
theorem wp_call_entry {a : Act} {w : World} {K : Act → World → Prop} {Q : Exit → Act → World → Prop} {d : Option Nat} {ps : String} {af : Array Edge} {x : Nat} {v : Value} {R : Ending → World → Prop} (hc : Calls Try.prog 19 #[v] w R) (hx : a.tmps[x]?.getD undef = v) (h : ∀ r w', R r w' → ∃ u, r = .returned u ∧ K (a.put d u) w') :
    Oper.wp Try.prog { dst := d, op := Op.call { callee := Callee.value (Operand.func 19), args := #[Operand.tmp x], argTypes := #[35] }, type := 35, pos := ps, after := af, guard := none } a w K Q := by
  go_simp
  refine hc.mono ?_
  intro r w' hr
  obtain ⟨u, rfl, hk⟩ := h r w' hr
  exact hk
set_option maxRecDepth 100000 in
theorem load_entry {a : Act} {w : World} {p : Nat} {g : Nat} {e : EntD} {d : Option Nat} {ps : String} {af : Array Edge} (h : EBox w g e) (hp : a.tmps[p]?.getD undef = .pointer (some ⟨g, 0, none⟩)) :
    (execOp a.eval { dst := d, op := Op.load 35 (Operand.tmp p), type := 35, pos := ps, after := af, guard := none }).run Try.prog w = .ok (.value (.agg e.cells)) w := by
  obtain ⟨c0, c1, c2, c3, c4, c5, c6⟩ := h.cells7
  simp only [EntD.cells]
  go_simp
end Go.Proofs.Ythpdlclgiggekaa
