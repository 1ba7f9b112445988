import Derived.Test.YtnjopfdeapclhaaM36
import Derived.Test.YtnjopfdeapclhaaJ22
import Derived.Test.YtnjopfdeapclhaaJ24
import Derived.Deep.RegionHeld3
import Derived.Test.YtnjopfdeapclhaaJ25
import Derived.Lib.Hide
import Derived.Test.YtnjopfdeapclhaaJ07
namespace Go.Proofs.Ytnjopfdeapclhaa
open Go.RowKit Go.Shelf
set_option linter.unusedVariables false

/-! What stays while one block below B is changed. -/
theorem RdG.far {G : Nat → Prop} {w w' : World} {v : Value} {bs : List Nat} {s : Option Nat} (h : RdG G w v bs) (k : w.grownBy w' s) (hs : ∀ g, s = some g → ¬ G g) : RdG G w' v bs :=
  h.kept ⟨k.size, fun i hi hg => k.block i hi (fun e => hs i e.symm hg)⟩
theorem EOk.far {G : Nat → Prop} {w w' : World} {e : EntD} {s : Option Nat} (h : EOk G w e) (k : w.grownBy w' s) (hs : ∀ g, s = some g → ¬ G g) : EOk G w' e :=
  ⟨h.1.far k hs, h.2.1.far k hs, h.2.2.far k hs⟩
theorem Tb.far {G : Nat → Prop} {w w' : World} {t : Nat} {L : List EntD} {k : Int} {f : Bool} {s : Option Nat} (h : Tb G w t L k f) (g : w.grownBy w' s) (hs : ∀ x, s = some x → ¬ G x ∧ x ≠ t) : Tb G w' t L k f := by
  obtain ⟨p, T, h1, h2, h3⟩ := h.tree
  refine ⟨h.not, h.srt, h.good, h.few, p, T, ?_, h2.kept ⟨g.size, fun i hi hg => g.block i hi (fun e => (hs i e.symm).1 hg)⟩, h3⟩
  have ht : t < w.heap.size := (Array.getElem?_eq_some_iff.1 h1).1
  exact (g.block t ht (fun e => (hs t e.symm).2 rfl)).trans h1
theorem RBx.far {w w' : World} {b : Nat} {v : Value} {f : Bool} {s : Option Nat} (h : RBx w b v f) (k : w.grownBy w' s) (hs : s ≠ some b) : RBx w' b v f := (k.block b (Array.getElem?_eq_some_iff.1 h).1 (fun e => hs e.symm)).trans h
theorem EBox.far' {w w' : World} {b : Nat} {e : EntD} {s : Option Nat} (h : EBox w b e) (k : w.grownBy w' s) (hs : s ≠ some b) : EBox w' b e := (k.block b (Array.getElem?_eq_some_iff.1 h).1 (fun e => hs e.symm)).trans h
theorem Bxd.far {w w' : World} {b : Nat} {t : TypeId} {v : Value} {s : Option Nat} (h : Bxd w b t v) (k : w.grownBy w' s) (hs : s ≠ some b) : Bxd w' b t v := (k.block b (Array.getElem?_eq_some_iff.1 h).1 (fun e => hs e.symm)).trans h
theorem cell_far {w w' : World} {s : Option Nat} {a : Addr} {v : Value} (k : w.grownBy w' s) (hs : s ≠ some a.block) (h : w.cell? a = some v) : w'.cell? a = some v := by
  rw [World.cell?_of_block (w := w) (k.block a.block (World.block_lt_of_cell? _ _ h) (fun e => hs e.symm))]
  exact h
theorem Cs.far {w w' : World} {b o : Nat} {x : EntD} {s : Option Nat} (h : Cs w b o x) (k : w.grownBy w' s) (hs : s ≠ some b) : Cs w' b o x := by
  obtain ⟨h0, h1, h2, h3, h4, h5, h6⟩ := h
  exact ⟨cell_far k hs h0, cell_far k hs h1, cell_far k hs h2, cell_far k hs h3, cell_far k hs h4, cell_far k hs h5, cell_far k hs h6⟩
/-- A list of entries of which all lies from B on. -/
structure LB (w : World) (B : Nat) (v : Value) (xs : List EntD) : Prop where
  rd : RdL w v xs
  ents : ∀ x ∈ xs, EOk (fun i => B ≤ i) w x
  row : ∀ b, v.ownBlock = some b → B ≤ b
theorem LB.far {w w' : World} {B : Nat} {v : Value} {xs : List EntD} {s : Option Nat} (h : LB w B v xs) (k : w.grownBy w' s) (hs : ∀ g, s = some g → g < B) : LB w' B v xs := by
  refine ⟨?_, fun x hx => (h.ents x hx).far k (fun g e => by have := hs g e; omega), h.row⟩
  obtain ⟨a, cap, rfl, h2, h3, h4, h5, h6⟩ := h.rd
  refine ⟨a, cap, rfl, h2, h3, h4, h5, fun i x hx => ?_⟩
  obtain ⟨k1, b, off, rfl, k3⟩ := h6 i x hx
  refine ⟨((h.ents x (List.mem_of_getElem? hx)).far k (fun g e => by have := hs g e; omega)).ok, b, off, rfl, k3.far k (fun e => ?_)⟩
  have := hs b e
  have := h.row b rfl
  omega
theorem LB.later {w w' : World} {B : Nat} {v : Value} {xs : List EntD} (h : LB w B v xs) (k : Below w.heap.size w w') : LB w' B v xs := h.far (grown_below k none) (fun g e => by cases e)

/-! A list and the table go together. -/
theorem Sm.refl : ∀ (a : List EntD), Sm a a
  | [] => trivial
  | x :: a => ⟨EntD.Same.rfl' x, Sm.refl a⟩
theorem Sm.dropW {e e' : EntD} (he : EntD.Same e e') : ∀ {a b : List EntD}, Sm a b → Sm (a.dropWhile (fun y => decide (compareS y e < 0))) (b.dropWhile (fun y => decide (compareS y e' < 0)))
  | [], [], _ => trivial
  | x :: a, y :: b, h => by
    rw [List.dropWhile_cons, List.dropWhile_cons, compareS_same h.1 he]
    split
    · exact Sm.dropW he h.2
    · exact h
  | [], _ :: _, h => h.elim
  | _ :: _, [], h => h.elim
theorem Sm.take : ∀ {a b : List EntD} (n : Nat), Sm a b → Sm (a.take n) (b.take n)
  | [], [], _, _ => by simp [Sm]
  | _ :: _, _ :: _, 0, _ => by simp [Sm]
  | _ :: _, _ :: _, n + 1, h => ⟨h.1, Sm.take n h.2⟩
  | [], _ :: _, _, h => h.elim
  | _ :: _, [], _, h => h.elim
theorem Sm.drop : ∀ {a b : List EntD} (n : Nat), Sm a b → Sm (a.drop n) (b.drop n)
  | [], [], _, _ => by simp [Sm]
  | _ :: _, _ :: _, 0, h => h
  | _ :: _, _ :: _, n + 1, h => Sm.drop n h.2
  | [], _ :: _, _, h => h.elim
  | _ :: _, [], _, h => h.elim
end Go.Proofs.Ytnjopfdeapclhaa

namespace Go.Proofs.Ytnjopfdeapclhaa
open Go.RowKit Go.Shelf
set_option linter.unusedVariables false

theorem cmp_same {a b c d : EntD} (h : EntD.Same a c) (k : EntD.Same b d) : compareS a b = compareS c d := compareS_same h k
/-- The spot of an entry in one list is its spot in the other. -/
theorem Spot.sm {R L : List EntD} {e D : EntD} {t : Nat} (h : Spot R e t) (hs : Sm R L) (hd : EntD.Same D e) : Spot L D t := by
  refine ⟨by rw [← hs.len]; exact h.le, fun y hy => ?_, fun x hx => ?_⟩
  · obtain ⟨j, hj⟩ := List.getElem?_of_mem hy
    have hjt : j < (R.take t).length := by
      have := (List.getElem?_eq_some_iff.1 hj).1
      rw [List.length_take] at this ⊢
      rw [hs.len]; exact this
    obtain ⟨a, b, h1, h2, h3⟩ := (hs.take t).at hjt
    rw [h2] at hj; cases hj
    rw [← cmp_same h3 hd.symm]
    exact h.lt a (List.mem_of_getElem? h1)
  · have ht : t < R.length := by rw [hs.len]; exact (List.getElem?_eq_some_iff.1 hx).1
    obtain ⟨a, b, h1, h2, h3⟩ := hs.at ht
    rw [h2] at hx; cases hx
    rw [← cmp_same h3 hd.symm]
    exact h.ge a h1
/-- In an ordered list an entry is there just if it is at its spot. -/
theorem spot_there {L : List EntD} {D : EntD} {t : Nat} (hl : Srt L) (sp : Spot L D t) {y : EntD} (hy : y ∈ L) (h0 : compareS D y = 0) : ∃ x, L[t]? = some x ∧ compareS x D = 0 := by
  have h0' : compareS y D = 0 := by rw [compareS_swap, h0]; rfl
  obtain ⟨j, hj⟩ := List.getElem?_of_mem hy
  obtain ⟨hjl, hje⟩ := List.getElem?_eq_some_iff.1 hj
  by_cases h1 : j < t
  · have := sp.lt y (by
      rw [List.mem_iff_getElem?]
      exact ⟨j, by rw [List.getElem?_take, if_pos h1]; exact hj⟩)
    omega
  · by_cases h2 : j = t
    · subst h2; exact ⟨y, hj, h0'⟩
    · have htl : t < L.length := by omega
      have hx : L[t]? = some L[t] := by simp [htl]
      have h3 := sp.ge _ hx
      have h4 : compareS L[t] y < 0 := by
        have := List.pairwise_iff_getElem.1 hl t j htl hjl (by omega)
        rw [hje] at this; exact this
      have h5 : compareS y L[t] = - compareS L[t] y := compareS_swap _ _
      have h6 := compareS_tri L[t] y D
      unfold Tri at h6
      exfalso
      omega
theorem spot_ins {L A B : List EntD} {D x : EntD} {t : Nat} (sp : Spot L D t) (hL : L = A ++ B) (hs : Srt (A ++ x :: B)) (hx : EntD.Same x D) : t = A.length := by
  have hA : ∀ a ∈ A, compareS a D < 0 := fun a ha => by
    have := (List.pairwise_append.1 hs).2.2 a ha x (by simp)
    rwa [cmp_same (EntD.Same.rfl' a) hx] at this
  have hB : ∀ b ∈ B, compareS D b < 0 := fun b hb => by
    have := (List.pairwise_cons.1 (List.pairwise_append.1 hs).2.1).1 b hb
    rwa [cmp_same hx (EntD.Same.rfl' b)] at this
  by_cases h1 : t < A.length
  · have h2 : L[t]? = some A[t] := by rw [hL, List.getElem?_append_left h1]; simp [h1]
    exact absurd (hA _ (List.getElem_mem h1)) (sp.ge _ h2)
  · by_cases h2 : t = A.length
    · exact h2
    · have h3 := sp.le
      rw [hL, List.length_append] at h3
      have hb : 0 < B.length := by omega
      have h4 := sp.lt B[0] (by
        rw [List.mem_iff_getElem?]
        refine ⟨A.length, ?_⟩
        rw [List.getElem?_take, if_pos (by omega), hL, List.getElem?_append_right (Nat.le_refl _)]
        simp [hb])
      have h5 := hB B[0] (List.getElem_mem hb)
      have h6 : compareS B[0] D = - compareS D B[0] := compareS_swap _ _
      omega

/-- Both Adds answer the same, and the lists stay the same. -/
theorem both_add {R L R' L' : List EntD} {D e : EntD} {c c' : Nat} (hs : Sm R L) (hl : Srt L) (hde : EntD.Same D e)
    (ht : (checkS D ≠ 0 ∧ c = checkS D ∧ L' = L) ∨ (checkS D = 0 ∧ (∃ y ∈ L, compareS D y = 0) ∧ c = 80 ∧ L' = L) ∨ (c = 0 ∧ checkS D = 0 ∧ (¬ ∃ y ∈ L, compareS D y = 0) ∧ ∃ A B x, L = A ++ B ∧ EntD.Same x D ∧ L' = A ++ x :: B ∧ Srt (A ++ x :: B)))
    (hr : (checkS e ≠ 0 ∧ c' = checkS e ∧ R' = R) ∨ (checkS e = 0 ∧ ∃ t, Spot R e t ∧ ((c' = 80 ∧ R' = R ∧ ∃ x, R[t]? = some x ∧ compareS x e = 0) ∨ (c' = 0 ∧ (∀ x, R[t]? = some x → compareS x e ≠ 0) ∧ ∃ x, EntD.Same x e ∧ R' = R.take t ++ x :: R.drop t)))) : c = c' ∧ Sm R' L' := by
  have hce : checkS D = checkS e := checkS_same hde
  rcases ht with ⟨h1, rfl, rfl⟩ | ⟨h1, ⟨y, hy, hy0⟩, rfl, rfl⟩ | ⟨rfl, h1, h2, A, B, x, h3, h4, rfl, h5⟩
  · rcases hr with ⟨k1, rfl, rfl⟩ | ⟨k1, _⟩
    · exact ⟨hce, hs⟩
    · exact absurd (hce.trans k1) h1
  · rcases hr with ⟨k1, _⟩ | ⟨k1, t, sp, ⟨rfl, rfl, _⟩ | ⟨rfl, k2, _⟩⟩
    · omega
    · exact ⟨rfl, hs⟩
    · exfalso
      obtain ⟨z, z1, z2⟩ := spot_there hl (sp.sm hs hde) hy hy0
      have ht : t < R.length := by rw [hs.len]; exact (List.getElem?_eq_some_iff.1 z1).1
      obtain ⟨a, b, h1, h2, h3⟩ := hs.at ht
      rw [h2] at z1; cases z1
      exact k2 a h1 (by rw [cmp_same h3 hde.symm]; exact z2)
  · rcases hr with ⟨k1, _⟩ | ⟨k1, t, sp, ⟨_, _, z, z1, z2⟩ | ⟨rfl, k2, x', e1, rfl⟩⟩
    · omega
    · exfalso
      have ht : t < R.length := (List.getElem?_eq_some_iff.1 z1).1
      obtain ⟨a, b, q1, q2, q3⟩ := hs.at ht
      rw [q1] at z1; cases z1
      refine h2 ⟨b, List.mem_of_getElem? q2, ?_⟩
      rw [compareS_swap, ← cmp_same q3 hde.symm, z2]; rfl
    · refine ⟨rfl, ?_⟩
      have hA := spot_ins (sp.sm hs hde) h3 h5 h4
      subst h3
      have e2 : Sm (R.take t) A := by have := hs.take t; rw [hA, List.take_left] at this; rw [hA]; exact this
      have e3 : Sm (R.drop t) B := by have := hs.drop t; rw [hA, List.drop_left] at this; rw [hA]; exact this
      exact Sm.app e2 ⟨e1.trans (hde.symm.trans h4.symm), e3⟩
end Go.Proofs.Ytnjopfdeapclhaa

namespace Go.Proofs.Ytnjopfdeapclhaa
open Go.RowKit
set_option linter.unusedVariables false
theorem ebox_lt {w : World} {g : Nat} {e : EntD} (h : EBox w g e) : g < w.heap.size := (Array.getElem?_eq_some_iff.1 h).1
theorem ebox_ne {w : World} {g : Nat} {e : EntD} (h : EBox w g e) : g ≠ w.heap.size := by have := ebox_lt h; omega
theorem ne_of_lt_le {a b c : Nat} (h : a < b) (k : b ≤ c) : a ≠ c := by omega
theorem LaidE.fillE {w : World} {B g : Nat} {D D0 E : EntD} (h : LaidE w B D) (hg : EBox w g D0) : LaidE (filled w g E) B D := by
  have f : ∀ u bs, Laid w B u bs → Laid (filled w g E) B u bs := by
    rintro u bs ⟨g2, c, h1, h2, h3, h4⟩
    exact ⟨g2, c, h1, h2, h3, h4.apartE hg (filled_apart _ _ _)⟩
  exact ⟨f _ _ h.1, f _ _ h.2.1, f _ _ h.2.2⟩
set_option maxRecDepth 100000 in
theorem wp_alloc_entry {a : Act} {w : World} {K : Act → World → Prop} {Q : Exit → Act → World → Prop} {d : Option Nat} {ps : String} {af : Array Edge} (h : K (a.put d (.pointer (some ⟨w.heap.size, 0, none⟩))) (w.alloc (.cells zeroD.cells 30))) :
    Oper.wp Try.prog { dst := d, op := Op.alloc 30, type := 0, pos := ps, after := af, guard := none } a w K Q := by
  go_simp
  exact h
set_option maxRecDepth 100000 in
theorem wp_store_entry {a : Act} {w : World} {K : Act → World → Prop} {Q : Exit → Act → World → Prop} {ps : String} {af : Array Edge} {p v : Nat} {b B : Nat} {wz : World} {D0 D : EntD} (hb : EBox w b D0) (hl : LaidE wz B D) (hp : a.tmps[p]?.getD undef = .pointer (some ⟨b, 0, none⟩)) (hv : a.tmps[v]?.getD undef = .agg D.cells) (h : K a (filled w b D)) :
    Oper.wp Try.prog { dst := none, op := Op.store 30 (Operand.tmp p) (Operand.tmp v), type := 0, pos := ps, after := af, guard := none } a w K Q := by
  obtain ⟨c0, c1, c2, c3, c4, c5, c6⟩ := hb.cells7
  obtain ⟨f0, f1, f2, f3, f4, f5, f6⟩ := hb.fz7
  obtain ⟨i1, i2, i3, e1⟩ := hl.1.form
  obtain ⟨j1, j2, j3, e2⟩ := hl.2.1.form
  obtain ⟨k1, k2, k3, e3⟩ := hl.2.2.form
  clear hl hb
  obtain ⟨vr, fam, vq, ts, seq, kind, vv, row, qual, val⟩ := D
  simp only at e1 e2 e3
  subst e1 e2 e3
  simp only [EntD.cells] at hv
  simp only [filled] at h
  go_simp
  exact h
set_option maxRecDepth 100000 in
theorem wp_call_entry {a : Act} {w : World} {K : Act → World → Prop} {Q : Exit → Act → World → Prop} {d : Option Nat} {ps : String} {af : Array Edge} {x : Nat} {v : Value} {R : Ending → World → Prop} (hc : Calls Try.prog 20 #[v] w R) (hx : a.tmps[x]?.getD undef = v) (h : ∀ r w', R r w' → ∃ u, r = .returned u ∧ K (a.put d u) w') :
    Oper.wp Try.prog { dst := d, op := Op.call { callee := Callee.value (Operand.func 20), args := #[Operand.tmp x], argTypes := #[30] }, type := 30, pos := ps, after := af, guard := none } a w K Q := by
  go_simp
  refine hc.mono ?_
  intro r w' hr
  obtain ⟨u, rfl, hk⟩ := h r w' hr
  exact hk
set_option maxRecDepth 100000 in
theorem load_entry {a : Act} {w : World} {p : Nat} {g : Nat} {e : EntD} {d : Option Nat} {ps : String} {af : Array Edge} (h : EBox w g e) (hp : a.tmps[p]?.getD undef = .pointer (some ⟨g, 0, none⟩)) :
    (execOp a.eval { dst := d, op := Op.load 30 (Operand.tmp p), type := 30, pos := ps, after := af, guard := none }).run Try.prog w = .ok (.value (.agg e.cells)) w := by
  obtain ⟨c0, c1, c2, c3, c4, c5, c6⟩ := h.cells7
  simp only [EntD.cells]
  go_simp
end Go.Proofs.Ytnjopfdeapclhaa

namespace Go.Proofs.Ytnjopfdeapclhaa
open Go.RowKit
set_option linter.unusedVariables false

def order3Ops : Array Oper := #[{ dst := some 15, op := Op.load 30 (Operand.tmp 3), type := 30, pos := "law.go:177", after := #[], guard := none }, { dst := some 16, op := Op.call { callee := Callee.value (Operand.func 20), args := #[Operand.tmp 15], argTypes := #[30] }, type := 30, pos := "law.go:177", after := #[{ on := 0, ground := Ground.data }], guard := none }, { dst := some 17, op := Op.load 30 (Operand.tmp 4), type := 30, pos := "law.go:177", after := #[], guard := none }, { dst := some 18, op := Op.call { callee := Callee.value (Operand.func 20), args := #[Operand.tmp 17], argTypes := #[30] }, type := 30, pos := "law.go:177", after := #[{ on := 2, ground := Ground.data }, { on := 1, ground := Ground.chain }], guard := none }, { dst := some 19, op := Op.load 30 (Operand.tmp 5), type := 30, pos := "law.go:177", after := #[], guard := none }, { dst := some 20, op := Op.call { callee := Callee.value (Operand.func 20), args := #[Operand.tmp 19], argTypes := #[30] }, type := 30, pos := "law.go:177", after := #[{ on := 4, ground := Ground.data }, { on := 3, ground := Ground.chain }], guard := none }, { dst := some 7, op := Op.alloc 30, type := 0, pos := "law.go:177", after := #[], guard := none }, { dst := some 8, op := Op.alloc 30, type := 0, pos := "law.go:177", after := #[], guard := none }, { dst := some 9, op := Op.alloc 30, type := 0, pos := "law.go:177", after := #[], guard := none }, { dst := none, op := Op.store 30 (Operand.tmp 7) (Operand.tmp 16), type := 0, pos := "law.go:177", after := #[{ on := 6, ground := Ground.data }, { on := 1, ground := Ground.data }, { on := 5, ground := Ground.chain }, { on := 0, ground := Ground.phase }, { on := 1, ground := Ground.phase }, { on := 2, ground := Ground.textOnly Departure.lateStores }, { on := 3, ground := Ground.textOnly Departure.lateStoresUnsure }, { on := 4, ground := Ground.textOnly Departure.lateStores }, { on := 5, ground := Ground.textOnly Departure.lateStoresUnsure }, { on := 6, ground := Ground.phase }, { on := 7, ground := Ground.phase }, { on := 8, ground := Ground.phase }], guard := none }, { dst := none, op := Op.store 30 (Operand.tmp 8) (Operand.tmp 18), type := 0, pos := "law.go:177", after := #[{ on := 7, ground := Ground.data }, { on := 3, ground := Ground.data }, { on := 9, ground := Ground.chain }, { on := 0, ground := Ground.phase }, { on := 1, ground := Ground.phase }, { on := 2, ground := Ground.phase }, { on := 3, ground := Ground.phase }, { on := 4, ground := Ground.textOnly Departure.lateStores }, { on := 5, ground := Ground.textOnly Departure.lateStoresUnsure }, { on := 6, ground := Ground.phase }, { on := 7, ground := Ground.phase }, { on := 8, ground := Ground.phase }, { on := 9, ground := Ground.phase }], guard := none }, { dst := none, op := Op.store 30 (Operand.tmp 9) (Operand.tmp 20), type := 0, pos := "law.go:177", after := #[{ on := 8, ground := Ground.data }, { on := 5, ground := Ground.data }, { on := 10, ground := Ground.chain }, { on := 0, ground := Ground.phase }, { on := 1, ground := Ground.phase }, { on := 2, ground := Ground.phase }, { on := 3, ground := Ground.phase }, { on := 4, ground := Ground.phase }, { on := 5, ground := Ground.phase }, { on := 6, ground := Ground.phase }, { on := 7, ground := Ground.phase }, { on := 8, ground := Ground.phase }, { on := 9, ground := Ground.phase }, { on := 10, ground := Ground.phase }], guard := none }]
def order3Act (s0 s1 s2 s3 s4 s5 s6 s13 s14 v7 v8 v9 v15 v16 v17 v18 v19 v20 : Value) : Act := ⟨#[s0, s1, s2, s3, s4, s5, s6, v7, v8, v9, undef, undef, undef, s13, s14, v15, v16, v17, v18, v19, v20, undef, undef, undef, undef, undef, undef, undef, undef, undef, undef, undef, undef, undef, undef, undef, undef, undef, undef, undef, undef, undef, undef, undef, undef, undef, undef, undef, undef, undef, undef, undef, undef, undef, undef, undef, undef, undef, undef, undef, undef, undef, undef, undef, undef, undef, undef, undef, undef, undef, undef, undef, undef, undef, undef, undef, undef, undef, undef, undef, undef, undef, undef, undef, undef, undef], []⟩

end Go.Proofs.Ytnjopfdeapclhaa

namespace Go.Proofs.Ytnjopfdeapclhaa
open Go.RowKit
set_option linter.unusedVariables false

theorem EntD.Same.trans' {a b c : EntD} (h : EntD.Same a b) (k : EntD.Same c b) : EntD.Same a c := ⟨h.1.trans k.1.symm, h.2.1.trans k.2.1.symm, h.2.2.1.trans k.2.2.1.symm, h.2.2.2.1.trans k.2.2.2.1.symm, h.2.2.2.2.1.trans k.2.2.2.2.1.symm, h.2.2.2.2.2.1.trans k.2.2.2.2.2.1.symm, h.2.2.2.2.2.2.trans k.2.2.2.2.2.2.symm⟩
theorem three_in (w : World) (a b c : EntD) : EBox (((w.alloc (.cells a.cells 30)).alloc (.cells b.cells 30)).alloc (.cells c.cells 30)) w.heap.size a ∧ EBox (((w.alloc (.cells a.cells 30)).alloc (.cells b.cells 30)).alloc (.cells c.cells 30)) (w.heap.size + 1) b ∧ EBox (((w.alloc (.cells a.cells 30)).alloc (.cells b.cells 30)).alloc (.cells c.cells 30)) (w.heap.size + 1 + 1) c ∧ Below w.heap.size w (((w.alloc (.cells a.cells 30)).alloc (.cells b.cells 30)).alloc (.cells c.cells 30)) := by
  refine ⟨((EBox.new w a).later ((Below.refl _ _).alloc (Nat.le_refl _) _)).later ((Below.refl _ _).alloc (Nat.le_refl _) _), ?_, ?_, ((((Below.refl w.heap.size w).alloc (Nat.le_refl _) _).alloc (by simp) _).alloc (by simp; omega) _)⟩
  · have h := EBox.new (w.alloc (.cells a.cells 30)) b
    rw [World.size_alloc] at h
    exact h.later ((Below.refl _ _).alloc (Nat.le_refl _) _)
  · have h := EBox.new ((w.alloc (.cells a.cells 30)).alloc (.cells b.cells 30)) c
    rw [World.size_alloc, World.size_alloc] at h
    exact h

end Go.Proofs.Ytnjopfdeapclhaa

namespace Go.Proofs.Ytnjopfdeapclhaa
open Go.RowKit
set_option linter.unusedVariables false
end Go.Proofs.Ytnjopfdeapclhaa

namespace Go.Proofs.Ytnjopfdeapclhaa
open Go.RowKit
set_option linter.unusedVariables false

theorem Laid.set {w : World} {B g n c k : Nat} {bs : List Nat} (h : Laid w B (.slice (some ⟨g, 0, none⟩) n c) bs) (hk : k < bs.length) (v : Nat) : Laid (w.setCell ⟨g, k, none⟩ (.int .u8 (v : Int))) B (.slice (some ⟨g, 0, none⟩) n c) (bs.set k v) ∧ w.grownBy (w.setCell ⟨g, k, none⟩ (.int .u8 (v : Int))) (some g) := by
  obtain ⟨g2, c2, h1, h2, h3, h4⟩ := h
  simp only [Value.slice.injEq, Option.some.injEq] at h1
  obtain ⟨e1, rfl, rfl⟩ := h1
  obtain rfl : g = g2 := by injection e1
  have st := h4.2.stored k (.int .u8 (v : Int))
  refine ⟨⟨g, c, by simp, by simpa using h2, h3, ⟨by simp; rfl, ?_⟩⟩, st.2⟩
  have e : ((bs.set k v ++ marks5) ++ List.replicate 70 206) = ((bs ++ marks5) ++ List.replicate 70 206).set k v := by
    rw [List.set_append_left _ _ (by simp; omega), List.set_append_left _ _ hk]
  rw [e]
  have e2 : bv (((bs ++ marks5) ++ List.replicate 70 206).set k v) = (bv ((bs ++ marks5) ++ List.replicate 70 206)).set k (.int .u8 (v : Int)) := by simp [bv, List.map_set]
  rw [e2]
  simpa using st.1
theorem Laid.cellF {w : World} {B g n c k : Nat} {bs : List Nat} (h : Laid w B (.slice (some ⟨g, 0, none⟩) n c) bs) (hk : k < bs.length) : (∃ y : Nat, w.cell? ⟨g, k, none⟩ = some (.int .u8 (y : Int))) ∧ w.frozen? ⟨g, k, none⟩ = false := by
  obtain ⟨g2, c2, h1, h2, h3, h4⟩ := h
  simp only [Value.slice.injEq, Option.some.injEq] at h1
  obtain ⟨e1, rfl, rfl⟩ := h1
  obtain rfl : g = g2 := by injection e1
  refine ⟨⟨((bs ++ marks5) ++ List.replicate 70 206).getD k 0, ?_⟩, h4.2.frozenAt k⟩
  rw [h4.2.cellAt k (by omega)]
  exact bv_at _ _ (by simp; omega)

set_option maxRecDepth 100000 in
set_option maxHeartbeats 4000000 in
theorem put_any {w : World} {B g n c : Nat} {at_ by_ : Int} {bs : List Nat} (h : Laid w B (.slice (some ⟨g, 0, none⟩) n c) bs) (hl : bs.length ≤ 5000) (hb : Bys bs) :
    Calls Try.prog 54 #[.slice (some ⟨g, 0, none⟩) n c, .int .i64 at_, .int .i64 by_] w fun r w' => r = .returned (.tuple #[]) ∧ ∃ bs', bs'.length = bs.length ∧ Bys bs' ∧ Laid w' B (.slice (some ⟨g, 0, none⟩) n c) bs' ∧ w.grownBy w' (some g) := by
  have hn : n = bs.length := by
    obtain ⟨g2, c2, h1, _⟩ := h
    simp only [Value.slice.injEq] at h1
    exact h1.2.1
  have HL := Lib.hid h
  have HB := Lib.hid hb
  have HN := Lib.hid hn
  by_cases h0 : n = 0
  · subst h0
    clear h hn hb
    go_enter Try.func54, Try.ntmps54
    go_wp2
    first | go_ret | refine bodyPost_end (v := .tuple #[]) (by first | rfl | kernel_rfl) rfl ?_ | refine bodyPost_ret (v := .tuple #[]) (by first | rfl | kernel_rfl) rfl ?_
    exact ⟨rfl, bs, rfl, HB.out, HL.out, World.grownBy.refl _ _⟩
  · have hz0 : ((n : Int) == 0) = false := by simp; omega
    have hz1 : ¬ ((n : Int) = 0) := by omega
    obtain ⟨v, hv⟩ : ∃ v : Nat, (v : Int) = by_ % 256 := ⟨(by_ % 256).toNat, by omega⟩
    have hv256 : v < 256 := by omega
    have KEY : Hid (∀ k, k < n → ∃ bs', bs'.length = bs.length ∧ Bys bs' ∧ Laid (w.setCell ⟨g, k, none⟩ (.int .u8 (v : Int))) B (.slice (some ⟨g, 0, none⟩) n c) bs' ∧ w.grownBy (w.setCell ⟨g, k, none⟩ (.int .u8 (v : Int))) (some g)) := fun k hk => by
      have := HL.out.set (k := k) (by omega) v
      refine ⟨bs.set k v, by simp, fun x hx => ?_, this.1, this.2⟩
      rcases List.mem_or_eq_of_mem_set hx with h | h
      · exact HB.out x h
      · omega
    have CEL : Hid (∀ k, k < n → (∃ y : Nat, w.cell? ⟨g, k, none⟩ = some (.int .u8 (y : Int))) ∧ w.frozen? ⟨g, k, none⟩ = false) := fun k hk => HL.out.cellF (by omega)
    obtain ⟨z, hz⟩ : ∃ z, z = at_.tmod (n : Int) := ⟨_, rfl⟩
    have hzl : -(n : Int) < z ∧ z < (n : Int) := by
      rw [hz]
      have h1 := Int.tmod_lt_of_pos at_ (b := (n : Int)) (by omega)
      have h2 := Int.lt_tmod_of_pos at_ (b := (n : Int)) (by omega)
      omega
    clear h hb hn HL HB
    have HV := Lib.hid hv
    have hzs := hz.symm
    clear hz hv
    by_cases hneg : z < 0
    · obtain ⟨k, hk⟩ : ∃ k : Nat, z = (k : Int) - (n : Int) := ⟨(z + (n : Int)).toNat, by omega⟩
      subst hk
      have hkn : k < n := by omega
      have hkn' : (k : Int) < (n : Int) := by omega
      have hk0 : (0 : Int) ≤ (k : Int) := by omega
      have hwk : wrap64 (k : Int) = (k : Int) := by have := HN.out; unfold wrap64; omega
      obtain ⟨⟨y, hy⟩, hfz⟩ := CEL.out k hkn
      go_enter Try.func54, Try.ntmps54
      go_wp2
      refine bodyPost_end (v := .tuple #[]) (by first | rfl | kernel_rfl) rfl ?_
      refine ⟨rfl, ?_⟩
      have hk := KEY.out k hkn
      rw [HV.out] at hk
      exact hk
    · obtain ⟨k, hk⟩ : ∃ k : Nat, z = (k : Int) := ⟨z.toNat, by omega⟩
      subst hk
      have hkn : k < n := by omega
      have hkn' : (k : Int) < (n : Int) := by omega
      have hk0 : (0 : Int) ≤ (k : Int) := by omega
      have hwk : wrap64 (k : Int) = (k : Int) := by have := HN.out; unfold wrap64; omega
      obtain ⟨⟨y, hy⟩, hfz⟩ := CEL.out k hkn
      go_enter Try.func54, Try.ntmps54
      go_wp2
      refine bodyPost_end (v := .tuple #[]) (by first | rfl | kernel_rfl) rfl ?_
      refine ⟨rfl, ?_⟩
      have hk := KEY.out k hkn
      rw [HV.out] at hk
      exact hk

end Go.Proofs.Ytnjopfdeapclhaa

namespace Go.Proofs.Ytnjopfdeapclhaa
open Go.RowKit
set_option linter.unusedVariables false
theorem one_inv {bs : List Nat} {k x P : Nat} (hk : k ≤ bs.length) (h : oneR bs k = (x, P, false)) : k < bs.length ∧ x = bs.getD k 0 ∧ P = k + 1 := by
  unfold oneR at h
  split at h
  · simp at h
  · rename_i n
    simp only [Prod.mk.injEq] at h
    exact ⟨by omega, h.1.symm, h.2.1.symm⟩
theorem ord_le {bs row : List Nat} {k p E : Nat} (h : k ≤ bs.length) (q : ordR bs k = (row, p, E)) : p ≤ bs.length := by have := ordR_le bs k h; rw [q] at this; exact this
theorem fall_le {bs : List Nat} {k v p E : Nat} (h : k ≤ bs.length) (q : fallR bs k = (v, p, E)) : p ≤ bs.length := by have := fallR_le bs k h; rw [q] at this; exact this
theorem nat_entry {D : EntD} (hc : checkS D = 0) (hv : D.val = []) (a b c : Value) : checkS ⟨a, ((D.fam.toNat : Nat) : Int), b, ((D.ts.toNat : Nat) : Int), ((D.seq.toNat : Nat) : Int), ((D.kind.toNat : Nat) : Int), c, D.row, D.qual, []⟩ = 0 ∧ keyL ⟨a, ((D.fam.toNat : Nat) : Int), b, ((D.ts.toNat : Nat) : Int), ((D.seq.toNat : Nat) : Int), ((D.kind.toNat : Nat) : Int), c, D.row, D.qual, []⟩ = keyL D := by
  refine ⟨checkS_eq hc hv a b c, ?_⟩
  obtain ⟨_, f, _, _, t, s, k, _⟩ := check_facts hc
  rw [Int.toNat_of_nonneg f.1, Int.toNat_of_nonneg (show 0 ≤ D.ts by omega), Int.toNat_of_nonneg s.1, Int.toNat_of_nonneg (show 0 ≤ D.kind by omega)]
  exact keyL_val D a b c []

theorem parse_plain_facts {bs row qual : List Nat} {p1 p4 p6 p7 E1 E4 E6 E7 ts sq : Nat} (q1 : ordR bs 0 = (row, p1, E1)) (hfm : bs.getD (p1 + 1) 0 ≠ 0) (q4 : ordR bs (p1 + 2) = (qual, p4, E4)) (q6 : fallR bs (p4 + 1) = (ts, p6, E6)) (q7 : fallR bs p6 = (sq, p7, E7)) (a b c : Value) (h : IsKey bs) :
    E1 = 0 ∧ p1 + 2 ≤ bs.length ∧ E4 = 0 ∧ p4 + 1 ≤ bs.length ∧ E6 = 0 ∧ E7 = 0 ∧ p7 + 1 = bs.length ∧ checkS ⟨a, ((bs.getD p1 0 : Nat) : Int), b, (ts : Int), (sq : Int), ((bs.getD p7 0 : Nat) : Int), c, row, qual, []⟩ = 0 ∧ keyL ⟨a, ((bs.getD p1 0 : Nat) : Int), b, (ts : Int), (sq : Int), ((bs.getD p7 0 : Nat) : Int), c, row, qual, []⟩ = bs := by
  obtain ⟨D, hc, hv, hk⟩ := h
  have l1 := ord_le (Nat.zero_le _) q1
  by_cases k5 : D.kind = 5
  · exfalso
    obtain ⟨u1, u2, u3, u6, u7, r1, r2, r3, r6, r7, r8⟩ := reads_fam hc k5
    rw [hk] at r1 r2 r3
    rw [q1] at r1
    simp only [Prod.mk.injEq] at r1
    obtain ⟨rfl, rfl, rfl⟩ := r1
    obtain ⟨a2, b2, rfl⟩ := one_inv l1 r2
    obtain ⟨a3, b3, rfl⟩ := one_inv (by omega) r3
    exact hfm b3.symm
  · obtain ⟨u1, u2, u3, u4, u5, u6, u7, r1, r2, r3, r4, r5, r6, r7, r8⟩ := reads_plain hc k5
    rw [hk] at r1 r2 r3 r4 r5 r6 r7 r8
    rw [q1] at r1
    simp only [Prod.mk.injEq] at r1
    obtain ⟨e1, rfl, rfl⟩ := r1
    obtain ⟨a2, b2, rfl⟩ := one_inv l1 r2
    obtain ⟨a3, b3, rfl⟩ := one_inv (by omega) r3
    rw [q4] at r4
    simp only [Prod.mk.injEq] at r4
    obtain ⟨e4, rfl, rfl⟩ := r4
    have l4 := ord_le (by omega) q4
    obtain ⟨a5, b5, rfl⟩ := one_inv l4 r5
    rw [q6] at r6
    simp only [Prod.mk.injEq] at r6
    obtain ⟨e6, rfl, rfl⟩ := r6
    have l6 := fall_le (by omega) q6
    rw [q7] at r7
    simp only [Prod.mk.injEq] at r7
    obtain ⟨e7, rfl, rfl⟩ := r7
    have l7 := fall_le l6 q7
    obtain ⟨a8, b8, e8⟩ := one_inv l7 r8
    have n := nat_entry hc hv a b c
    rw [hk] at n
    rw [← b2, ← b8, e1, e4, e6, e7]
    exact ⟨rfl, by omega, rfl, by omega, rfl, rfl, e8.symm, n.1, n.2⟩
theorem parse_fam_facts {bs row : List Nat} {p1 p6 p7 E1 E6 E7 ts sq : Nat} (q1 : ordR bs 0 = (row, p1, E1)) (hfm : bs.getD (p1 + 1) 0 = 0) (q6 : fallR bs (p1 + 2) = (ts, p6, E6)) (q7 : fallR bs p6 = (sq, p7, E7)) (a b c : Value) (h : IsKey bs) :
    E1 = 0 ∧ p1 + 2 ≤ bs.length ∧ E6 = 0 ∧ E7 = 0 ∧ p7 + 1 = bs.length ∧ checkS ⟨a, ((bs.getD p1 0 : Nat) : Int), b, (ts : Int), (sq : Int), ((bs.getD p7 0 : Nat) : Int), c, row, [], []⟩ = 0 ∧ keyL ⟨a, ((bs.getD p1 0 : Nat) : Int), b, (ts : Int), (sq : Int), ((bs.getD p7 0 : Nat) : Int), c, row, [], []⟩ = bs := by
  obtain ⟨D, hc, hv, hk⟩ := h
  have l1 := ord_le (Nat.zero_le _) q1
  by_cases k5 : D.kind = 5
  · obtain ⟨u1, u2, u3, u6, u7, r1, r2, r3, r6, r7, r8⟩ := reads_fam hc k5
    rw [hk] at r1 r2 r3 r6 r7 r8
    rw [q1] at r1
    simp only [Prod.mk.injEq] at r1
    obtain ⟨e1, rfl, rfl⟩ := r1
    obtain ⟨a2, b2, rfl⟩ := one_inv l1 r2
    obtain ⟨a3, b3, rfl⟩ := one_inv (by omega) r3
    rw [q6] at r6
    simp only [Prod.mk.injEq] at r6
    obtain ⟨e6, rfl, rfl⟩ := r6
    have l6 := fall_le (by omega) q6
    rw [q7] at r7
    simp only [Prod.mk.injEq] at r7
    obtain ⟨e7, rfl, rfl⟩ := r7
    have l7 := fall_le l6 q7
    obtain ⟨a8, b8, e8⟩ := one_inv l7 r8
    have n := nat_entry hc hv a b c
    rw [hk, (check_facts hc).2.2.2.1 k5] at n
    rw [← b2, ← b8, e1, e6, e7]
    exact ⟨rfl, by omega, rfl, rfl, e8.symm, n.1, n.2⟩
  · exfalso
    obtain ⟨u1, u2, u3, u4, u5, u6, u7, r1, r2, r3, r4, r5, r6, r7, r8⟩ := reads_plain hc k5
    rw [hk] at r1 r2 r3
    rw [q1] at r1
    simp only [Prod.mk.injEq] at r1
    obtain ⟨e1, rfl, rfl⟩ := r1
    obtain ⟨a2, b2, rfl⟩ := one_inv l1 r2
    obtain ⟨a3, b3, rfl⟩ := one_inv (by omega) r3
    rw [hfm] at b3
    cases b3
end Go.Proofs.Ytnjopfdeapclhaa

namespace Go.Proofs.Ytnjopfdeapclhaa
open Go.RowKit
set_option linter.unusedVariables false

theorem Own.put {w : World} {B g i m : Nat} {u x : Value} {bs : List Nat} (h : Own w B u m bs) (hg : g < B) : Own (w.setCell ⟨g, i, none⟩ x) B u m bs := by
  refine ⟨h.1, h.2.1, ?_⟩
  rcases h.2.2 with h5 | ⟨g3, cap, cur, h5, h6, h7, h8⟩
  · exact .inl h5
  · refine .inr ⟨g3, cap, cur, h5, h6, ?_, h8⟩
    rw [Below.heap_setCell w ⟨g, i, none⟩ x g3 (by simp; omega)]
    exact h7
theorem Own.fillo {w : World} {B g m : Nat} {u : Value} {bs : List Nat} {D : EntD} (h : Own w B u m bs) (hg : g < B) : Own (filled w g D) B u m bs :=
  (((((((h.put hg).put hg).put hg).put hg).put hg).put hg).put hg)
theorem three_boxes : (∀ w : World, EBox (((w.alloc (.cells #[.slice none 0 0, .int .i64 0, .slice none 0 0, .int .i64 0, .int .i64 0, .int .i64 0, .slice none 0 0] 30)).alloc (.cells #[.slice none 0 0, .int .i64 0, .slice none 0 0, .int .i64 0, .int .i64 0, .int .i64 0, .slice none 0 0] 30)).alloc (.cells #[.slice none 0 0, .int .i64 0, .slice none 0 0, .int .i64 0, .int .i64 0, .int .i64 0, .slice none 0 0] 30)) (w.heap.size) ⟨.slice none 0 0, 0, .slice none 0 0, 0, 0, 0, .slice none 0 0, [], [], []⟩) ∧ (∀ w : World, EBox (((w.alloc (.cells #[.slice none 0 0, .int .i64 0, .slice none 0 0, .int .i64 0, .int .i64 0, .int .i64 0, .slice none 0 0] 30)).alloc (.cells #[.slice none 0 0, .int .i64 0, .slice none 0 0, .int .i64 0, .int .i64 0, .int .i64 0, .slice none 0 0] 30)).alloc (.cells #[.slice none 0 0, .int .i64 0, .slice none 0 0, .int .i64 0, .int .i64 0, .int .i64 0, .slice none 0 0] 30)) (w.heap.size + 1) ⟨.slice none 0 0, 0, .slice none 0 0, 0, 0, 0, .slice none 0 0, [], [], []⟩) ∧ (∀ w : World, EBox (((w.alloc (.cells #[.slice none 0 0, .int .i64 0, .slice none 0 0, .int .i64 0, .int .i64 0, .int .i64 0, .slice none 0 0] 30)).alloc (.cells #[.slice none 0 0, .int .i64 0, .slice none 0 0, .int .i64 0, .int .i64 0, .int .i64 0, .slice none 0 0] 30)).alloc (.cells #[.slice none 0 0, .int .i64 0, .slice none 0 0, .int .i64 0, .int .i64 0, .int .i64 0, .slice none 0 0] 30)) (w.heap.size + 1 + 1) ⟨.slice none 0 0, 0, .slice none 0 0, 0, 0, 0, .slice none 0 0, [], [], []⟩) := by
  refine ⟨fun w => ?_, fun w => ?_, fun w => ?_⟩
  · exact (((EBox.new w ⟨.slice none 0 0, 0, .slice none 0 0, 0, 0, 0, .slice none 0 0, [], [], []⟩).later ((Below.refl _ _).alloc (Nat.le_refl _) _)).later ((Below.refl _ _).alloc (Nat.le_refl _) _))
  · have h := EBox.new (w.alloc (.cells #[.slice none 0 0, .int .i64 0, .slice none 0 0, .int .i64 0, .int .i64 0, .int .i64 0, .slice none 0 0] 30)) ⟨.slice none 0 0, 0, .slice none 0 0, 0, 0, 0, .slice none 0 0, [], [], []⟩
    rw [World.size_alloc] at h
    exact h.later ((Below.refl _ _).alloc (Nat.le_refl _) _)
  · have h := EBox.new ((w.alloc (.cells #[.slice none 0 0, .int .i64 0, .slice none 0 0, .int .i64 0, .int .i64 0, .int .i64 0, .slice none 0 0] 30)).alloc (.cells #[.slice none 0 0, .int .i64 0, .slice none 0 0, .int .i64 0, .int .i64 0, .int .i64 0, .slice none 0 0] 30)) ⟨.slice none 0 0, 0, .slice none 0 0, 0, 0, 0, .slice none 0 0, [], [], []⟩
    rw [World.size_alloc, World.size_alloc] at h
    exact h


end Go.Proofs.Ytnjopfdeapclhaa

namespace Go.Proofs.Ytnjopfdeapclhaa
open Go.RowKit
set_option linter.unusedVariables false
end Go.Proofs.Ytnjopfdeapclhaa

namespace Go.Proofs.Ytnjopfdeapclhaa
open Go.RowKit
set_option linter.unusedVariables false
end Go.Proofs.Ytnjopfdeapclhaa

namespace Go.Proofs.Ytnjopfdeapclhaa
open Go.RowKit
set_option linter.unusedVariables false
end Go.Proofs.Ytnjopfdeapclhaa

namespace Go.Proofs.Ytnjopfdeapclhaa
open Go.RowKit
set_option linter.unusedVariables false

def keysOps : Array Oper := #[{ dst := some 19, op := Op.load 30 (Operand.tmp 1), type := 30, pos := "law.go:121", after := #[], guard := none }, { dst := some 20, op := Op.call { callee := Callee.value (Operand.func 20), args := #[Operand.tmp 19], argTypes := #[30] }, type := 30, pos := "law.go:121", after := #[{ on := 0, ground := Ground.data }], guard := none }, { dst := some 21, op := Op.load 30 (Operand.tmp 1), type := 30, pos := "law.go:121", after := #[], guard := none }, { dst := some 22, op := Op.call { callee := Callee.value (Operand.func 20), args := #[Operand.tmp 21], argTypes := #[30] }, type := 30, pos := "law.go:121", after := #[{ on := 2, ground := Ground.data }, { on := 1, ground := Ground.chain }], guard := none }, { dst := some 3, op := Op.alloc 30, type := 0, pos := "law.go:121", after := #[], guard := none }, { dst := some 4, op := Op.alloc 30, type := 0, pos := "law.go:121", after := #[], guard := none }, { dst := none, op := Op.store 30 (Operand.tmp 3) (Operand.tmp 20), type := 0, pos := "law.go:121", after := #[{ on := 4, ground := Ground.data }, { on := 1, ground := Ground.data }, { on := 3, ground := Ground.chain }, { on := 0, ground := Ground.phase }, { on := 1, ground := Ground.phase }, { on := 2, ground := Ground.textOnly Departure.lateStores }, { on := 3, ground := Ground.textOnly Departure.lateStoresUnsure }, { on := 4, ground := Ground.phase }, { on := 5, ground := Ground.phase }], guard := none }, { dst := none, op := Op.store 30 (Operand.tmp 4) (Operand.tmp 22), type := 0, pos := "law.go:121", after := #[{ on := 5, ground := Ground.data }, { on := 3, ground := Ground.data }, { on := 6, ground := Ground.chain }, { on := 0, ground := Ground.phase }, { on := 1, ground := Ground.phase }, { on := 2, ground := Ground.phase }, { on := 3, ground := Ground.phase }, { on := 4, ground := Ground.phase }, { on := 5, ground := Ground.phase }, { on := 6, ground := Ground.phase }], guard := none }]
def keysAct (s0 s1 s2 s17 s18 v3 v4 v19 v20 v21 v22 : Value) : Act := ⟨#[s0, s1, s2, v3, v4, undef, undef, undef, undef, undef, undef, undef, undef, undef, undef, undef, undef, s17, s18, v19, v20, v21, v22, undef, undef, undef, undef, undef, undef, undef, undef, undef, undef, undef, undef, undef, undef, undef, undef, undef, undef, undef, undef, undef, undef, undef, undef, undef, undef, undef, undef, undef, undef, undef, undef, undef, undef, undef, undef, undef, undef, undef, undef, undef, undef, undef, undef, undef, undef, undef, undef, undef, undef, undef, undef, undef, undef, undef, undef, undef, undef, undef, undef, undef, undef, undef, undef, undef, undef, undef, undef, undef, undef, undef, undef, undef, undef, undef, undef, undef, undef, undef, undef, undef, undef, undef, undef, undef, undef, undef, undef, undef, undef, undef, undef, undef, undef, undef, undef, undef, undef, undef], []⟩

end Go.Proofs.Ytnjopfdeapclhaa
