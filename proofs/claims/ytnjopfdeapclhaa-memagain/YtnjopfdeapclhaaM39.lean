import Derived.Test.YtnjopfdeapclhaaM38
import Derived.Test.YtnjopfdeapclhaaJ15
namespace Go.Proofs.Ytnjopfdeapclhaa
open Go.RowKit Go.Shelf
set_option linter.unusedVariables false

/-! What stays while one block below B is changed. -/
theorem RdG.far {G : Nat → Prop} {w w' : World} {v : Value} {bs : List Nat} {s : Option Nat} (h : RdG G w v bs) (k : w.grownBy w' s) (hs : ∀ g, s = some g → ¬ G g) : RdG G w' v bs :=
  h.kept ⟨k.size, fun i hi hg => k.block i hi (fun e => hs i e.symm hg)⟩
theorem EOk.far {G : Nat → Prop} {w w' : World} {e : EntD} {s : Option Nat} (h : EOk G w e) (k : w.grownBy w' s) (hs : ∀ g, s = some g → ¬ G g) : EOk G w' e :=
  ⟨h.1.far k hs, h.2.1.far k hs, h.2.2.far k hs⟩
theorem Tb.far {G : Nat → Prop} {w w' : World} {t : Nat} {L : List EntD} {k : Int} {f : Bool} {s : Option Nat} (h : Tb G w t L k f) (g : w.grownBy w' s) (hs : ∀ x, s = some x → ¬ G x ∧ x ≠ t) : Tb G w' t L k f := by
  obtain ⟨p, T, h1, h2, h3⟩ := h.tree
  refine ⟨h.not, h.srt, h.good, h.few, p, T, ?_, h2.kept ⟨g.size, fun i hi hg => g.block i hi (fun e => (hs i e.symm).1 hg)⟩, h3⟩
  have ht : t < w.heap.size := (Array.getElem?_eq_some_iff.1 h1).1
  exact (g.block t ht (fun e => (hs t e.symm).2 rfl)).trans h1
theorem RBx.far {w w' : World} {b : Nat} {v : Value} {f : Bool} {s : Option Nat} (h : RBx w b v f) (k : w.grownBy w' s) (hs : s ≠ some b) : RBx w' b v f := (k.block b (Array.getElem?_eq_some_iff.1 h).1 (fun e => hs e.symm)).trans h
theorem EBox.far' {w w' : World} {b : Nat} {e : EntD} {s : Option Nat} (h : EBox w b e) (k : w.grownBy w' s) (hs : s ≠ some b) : EBox w' b e := (k.block b (Array.getElem?_eq_some_iff.1 h).1 (fun e => hs e.symm)).trans h
theorem Bxd.far {w w' : World} {b : Nat} {t : TypeId} {v : Value} {s : Option Nat} (h : Bxd w b t v) (k : w.grownBy w' s) (hs : s ≠ some b) : Bxd w' b t v := (k.block b (Array.getElem?_eq_some_iff.1 h).1 (fun e => hs e.symm)).trans h
theorem cell_far {w w' : World} {s : Option Nat} {a : Addr} {v : Value} (k : w.grownBy w' s) (hs : s ≠ some a.block) (h : w.cell? a = some v) : w'.cell? a = some v := by
  rw [World.cell?_of_block (w := w) (k.block a.block (World.block_lt_of_cell? _ _ h) (fun e => hs e.symm))]
  exact h
theorem Cs.far {w w' : World} {b o : Nat} {x : EntD} {s : Option Nat} (h : Cs w b o x) (k : w.grownBy w' s) (hs : s ≠ some b) : Cs w' b o x := by
  obtain ⟨h0, h1, h2, h3, h4, h5, h6⟩ := h
  exact ⟨cell_far k hs h0, cell_far k hs h1, cell_far k hs h2, cell_far k hs h3, cell_far k hs h4, cell_far k hs h5, cell_far k hs h6⟩
/-- A list of entries of which all lies from B on. -/
structure LB (w : World) (B : Nat) (v : Value) (xs : List EntD) : Prop where
  rd : RdL w v xs
  ents : ∀ x ∈ xs, EOk (fun i => B ≤ i) w x
  row : ∀ b, v.ownBlock = some b → B ≤ b
theorem LB.far {w w' : World} {B : Nat} {v : Value} {xs : List EntD} {s : Option Nat} (h : LB w B v xs) (k : w.grownBy w' s) (hs : ∀ g, s = some g → g < B) : LB w' B v xs := by
  refine ⟨?_, fun x hx => (h.ents x hx).far k (fun g e => by have := hs g e; omega), h.row⟩
  obtain ⟨a, cap, rfl, h2, h3, h4, h5, h6⟩ := h.rd
  refine ⟨a, cap, rfl, h2, h3, h4, h5, fun i x hx => ?_⟩
  obtain ⟨k1, b, off, rfl, k3⟩ := h6 i x hx
  refine ⟨((h.ents x (List.mem_of_getElem? hx)).far k (fun g e => by have := hs g e; omega)).ok, b, off, rfl, k3.far k (fun e => ?_)⟩
  have := hs b e
  have := h.row b rfl
  omega
theorem LB.later {w w' : World} {B : Nat} {v : Value} {xs : List EntD} (h : LB w B v xs) (k : Below w.heap.size w w') : LB w' B v xs := h.far (grown_below k none) (fun g e => by cases e)

/-! A list and the table go together. -/
theorem Sm.refl : ∀ (a : List EntD), Sm a a
  | [] => trivial
  | x :: a => ⟨EntD.Same.rfl' x, Sm.refl a⟩
theorem Sm.dropW {e e' : EntD} (he : EntD.Same e e') : ∀ {a b : List EntD}, Sm a b → Sm (a.dropWhile (fun y => decide (compareS y e < 0))) (b.dropWhile (fun y => decide (compareS y e' < 0)))
  | [], [], _ => trivial
  | x :: a, y :: b, h => by
    rw [List.dropWhile_cons, List.dropWhile_cons, compareS_same h.1 he]
    split
    · exact Sm.dropW he h.2
    · exact h
  | [], _ :: _, h => h.elim
  | _ :: _, [], h => h.elim
theorem Sm.take : ∀ {a b : List EntD} (n : Nat), Sm a b → Sm (a.take n) (b.take n)
  | [], [], _, _ => by simp [Sm]
  | _ :: _, _ :: _, 0, _ => by simp [Sm]
  | _ :: _, _ :: _, n + 1, h => ⟨h.1, Sm.take n h.2⟩
  | [], _ :: _, _, h => h.elim
  | _ :: _, [], _, h => h.elim
theorem Sm.drop : ∀ {a b : List EntD} (n : Nat), Sm a b → Sm (a.drop n) (b.drop n)
  | [], [], _, _ => by simp [Sm]
  | _ :: _, _ :: _, 0, h => h
  | _ :: _, _ :: _, n + 1, h => Sm.drop n h.2
  | [], _ :: _, _, h => h.elim
  | _ :: _, [], _, h => h.elim
end Go.Proofs.Ytnjopfdeapclhaa
