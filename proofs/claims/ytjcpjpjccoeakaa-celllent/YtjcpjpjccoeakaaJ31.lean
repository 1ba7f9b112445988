import Derived.Test.YtjcpjpjccoeakaaJ30
import Derived.Deep.RegionHeld3
namespace Go.Proofs.Ytjcpjpjccoeakaa
open Go.RowKit
set_option linter.unusedVariables false

/-- A book's box: the list, and what its items held. -/
def KBox (w : World) (g : Nat) (vL vW : Value) : Prop := w.heap[g]? = some (.cells #[vL, vW] 76 (0, 0))
theorem KBox.later {w w' : World} {g : Nat} {vL vW : Value} (h : KBox w g vL vW) (hb : Below w.heap.size w w') : KBox w' g vL vW := by
  unfold KBox at *
  rw [hb.block g (Array.getElem?_eq_some_iff.1 h).1]; exact h
theorem KBox.l {w : World} {g : Nat} {vL vW : Value} (h : KBox w g vL vW) : w.cell? ⟨g, 0, none⟩ = some vL := by unfold KBox at h; simp [World.cell?, h]
theorem KBox.w {w : World} {g : Nat} {vL vW : Value} (h : KBox w g vL vW) : w.cell? ⟨g, 1, none⟩ = some vW := by unfold KBox at h; simp [World.cell?, h]
theorem KBox.fz {w : World} {g : Nat} {vL vW : Value} (h : KBox w g vL vW) (i : Nat) : w.frozen? ⟨g, i, none⟩ = false := by unfold KBox at h; simp [World.frozen?, h]
theorem KBox.setL {w : World} {g : Nat} {vL vW : Value} (h : KBox w g vL vW) (x : Value) : KBox (w.setCell ⟨g, 0, none⟩ x) g x vW := by
  unfold KBox at *; simp [World.setCell, Array.getElem?_modify, h]
theorem KBox.setW {w : World} {g : Nat} {vL vW : Value} (h : KBox w g vL vW) (x : Value) : KBox (w.setCell ⟨g, 1, none⟩ x) g vL x := by
  unfold KBox at *; simp [World.setCell, Array.getElem?_modify, h]
theorem KBox.far {w w' : World} {g : Nat} {vL vW : Value} {o : Option Nat} (h : KBox w g vL vW) (k : w.grownBy w' o) (hne : ∀ x, o = some x → g ≠ x) : KBox w' g vL vW := by
  unfold KBox at *
  rw [k.block g (Array.getElem?_eq_some_iff.1 h).1 (fun e => hne g e.symm rfl)]
  exact h
/-- A box is no block of bytes, nor of a row; a row is no block of bytes. -/
theorem kbox_own {w : World} {B m g x : Nat} {v vL vW : Value} {xs : List Nat} (h : KBox w g vL vW) (o : Own w B v m xs) (hx : v.ownBlock = some x) : g ≠ x := by
  rintro rfl
  rcases o.2.2 with ⟨h1, _⟩ | ⟨g2, cap, cur, h3, _, h5, _⟩
  · rw [h1] at hx; cases hx
  · rw [h3] at hx
    simp only [Value.ownBlock, Option.some.injEq] at hx
    subst hx
    unfold KBox at h
    rw [h5] at h
    simp at h
theorem kbox_row {w : World} {B m g x : Nat} {v vL vW : Value} {vs : List Value} (h : KBox w g vL vW) (o : RowS w B v m vs) (hx : v.ownBlock = some x) : g ≠ x := by
  rintro rfl
  rcases o.2.2.2 with ⟨h1, _⟩ | ⟨g2, cap, cur, h3, _, h5, _⟩
  · rw [h1] at hx; cases hx
  · rw [h3] at hx
    simp only [Value.ownBlock, Option.some.injEq] at hx
    subst hx
    unfold KBox at h
    rw [h5] at h
    simp at h
theorem row_own {w : World} {B B' m n g : Nat} {u v : Value} {vs : List Value} {xs : List Nat} (h : RowS w B u m vs) (o : Own w B' v n xs) (hu : u.ownBlock = some g) : v.ownBlock ≠ some g := by
  intro hv
  rcases h.2.2.2 with ⟨h1, _⟩ | ⟨g2, cap, cur, h3, _, h5, _⟩
  · rw [h1] at hu; cases hu
  · rcases o.2.2 with ⟨k1, _⟩ | ⟨g4, cap4, cur4, k3, _, k5, _⟩
    · rw [k1] at hv; cases hv
    · rw [h3] at hu
      rw [k3] at hv
      simp only [Value.ownBlock, Option.some.injEq] at hu hv
      subst hu hv
      rw [h5] at k5
      simp at k5
theorem RowS.far {w w' : World} {B m : Nat} {v : Value} {o : Option Nat} {vs : List Value} (h : RowS w B v m vs) (k : w.grownBy w' o) (hne : ∀ g, o = some g → v.ownBlock ≠ some g) : RowS w' B v m vs := by
  refine ⟨h.1, h.2.1, h.2.2.1, ?_⟩
  rcases h.2.2.2 with h2 | ⟨g, cap, cur, h3, h4, h5, h6⟩
  · exact .inl h2
  · refine .inr ⟨g, cap, cur, h3, h4, ?_, h6⟩
    rw [k.block g (Array.getElem?_eq_some_iff.1 h5).1 ?_]
    · exact h5
    · intro e
      exact hne g e.symm (by rw [h3]; rfl)
theorem set_grown (w : World) (g i : Nat) (x : Value) : w.grownBy (w.setCell ⟨g, i, none⟩ x) (some g) := by
  have a := apart_set w g i x
  exact ⟨a.os, a.tape, a.output, a.size, fun j hj hne => a.block j hj (fun e => hne (by rw [e]))⟩

end Go.Proofs.Ytjcpjpjccoeakaa

namespace Go.Proofs.Ytjcpjpjccoeakaa
open Go.RowKit
set_option linter.unusedVariables false

theorem Within.from_ {D : EntD} {lo lo' hi : Nat} (h : Within D lo hi) (k : lo' ≤ lo) : Within D lo' hi := fun g hg => ⟨Nat.le_trans k (h g hg).1, (h g hg).2⟩
set_option maxRecDepth 100000 in
theorem wp_call_laid {a : Act} {w : World} {K : Act → World → Prop} {Q : Exit → Act → World → Prop} {d : Option Nat} {ps : String} {af : Array Edge} {x : Nat} {v : Value} {R : Ending → World → Prop} (hc : Calls Try.prog 30 #[v, .int .i64 ((5000 : Nat) : Int)] w R) (hx : a.tmps[x]?.getD undef = v) (h : ∀ r w', R r w' → ∃ u, r = .returned u ∧ K (a.put d u) w') :
    Oper.wp Try.prog { dst := d, op := Op.call { callee := Callee.value (Operand.func 30), args := #[Operand.tmp x, Operand.const (Value.int IntKind.i64 5000)], argTypes := #[33, 3] }, type := 33, pos := ps, after := af, guard := none } a w K Q := by
  go_simp
  refine hc.mono ?_
  intro r w' hr
  obtain ⟨u, rfl, hk⟩ := h r w' hr
  exact hk
set_option maxRecDepth 100000 in
theorem wp_call_copied {a : Act} {w : World} {K : Act → World → Prop} {Q : Exit → Act → World → Prop} {d : Option Nat} {ps : String} {af : Array Edge} {x : Nat} {v : Value} {R : Ending → World → Prop} (hc : Calls Try.prog 31 #[v] w R) (hx : a.tmps[x]?.getD undef = v) (h : ∀ r w', R r w' → ∃ u, r = .returned u ∧ K (a.put d u) w') :
    Oper.wp Try.prog { dst := d, op := Op.call { callee := Callee.value (Operand.func 31), args := #[Operand.tmp x], argTypes := #[33] }, type := 33, pos := ps, after := af, guard := none } a w K Q := by
  go_simp
  refine hc.mono ?_
  intro r w' hr
  obtain ⟨u, rfl, hk⟩ := h r w' hr
  exact hk
set_option maxRecDepth 100000 in
theorem wp_assign_tmp {a : Act} {w : World} {K : Act → World → Prop} {Q : Exit → Act → World → Prop} {d : Option Nat} {ps : String} {af : Array Edge} {x : Nat} {v : Value} (hx : a.tmps[x]?.getD undef = v) (h : K (a.put d v) w) :
    Oper.wp Try.prog { dst := d, op := Op.assign (Operand.tmp x), type := 33, pos := ps, after := af, guard := none } a w K Q := by
  go_simp
  exact h
set_option maxRecDepth 100000 in
theorem move_tmp {a : Act} {w : World} {x : Nat} {v : Value} {d : Option Nat} {ps : String} {af : Array Edge} (hx : a.tmps[x]?.getD undef = v) :
    (execOp a.eval { dst := d, op := Op.move (Operand.tmp x), type := 33, pos := ps, after := af, guard := none }).run Try.prog w = .ok (.value v) w := by
  go_simp
end Go.Proofs.Ytjcpjpjccoeakaa
