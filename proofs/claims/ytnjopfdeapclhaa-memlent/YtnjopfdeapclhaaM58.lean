import Derived.Test.YtnjopfdeapclhaaJ35
namespace Go.Proofs.Ytnjopfdeapclhaa
open Go.RowKit Go.Shelf
set_option linter.unusedVariables false

theorem FrT.row7 {w w' : World} {B n : Nat} {v : Value} {vs : List Value} (h : FrT w w') (k : w.ownsRow B 30 7 v n vs) : w'.ownsRow B 30 7 v n vs := by
  refine ⟨k.1, ?_⟩
  rcases k.2 with h2 | ⟨g, cap, cur, h3, h4, h5, h6⟩
  · exact .inl h2
  · exact .inr ⟨g, cap, cur, h3, h4, by rw [h g _ _ _ h5 (by decide) (by decide)]; exact h5, h6⟩
theorem FrT.ku {w w' : World} (h : FrT w w') : KU w w' := fun i cur fr hi => (h i _ _ _ hi (by decide) (by decide)).trans hi
/-- A list of entries that was handed out: its row, and what its entries read. -/
structure ER (w : World) (B : Nat) (v : Value) (xs : List EntD) : Prop where
  row : w.ownsRow B 30 7 v xs.length (evals xs)
  ents : ∀ x ∈ xs, EOk (fun i => B ≤ i) w x
  few : xs.length ≤ 30
theorem ER.rd {w : World} {B : Nat} {v : Value} {xs : List EntD} (h : ER w B v xs) : RdL w v xs := RdL.of h.row (fun x hx => (h.ents x hx).ok) (by have := h.few; omega)
theorem ER.frt {w w' : World} {B : Nat} {v : Value} {xs : List EntD} (h : ER w B v xs) (k : FrT w w') : ER w' B v xs := ⟨k.row7 h.row, fun x hx => (h.ents x hx).ku k.ku, h.few⟩
theorem ER.later {w w' : World} {B : Nat} {v : Value} {xs : List EntD} (h : ER w B v xs) (k : Below w.heap.size w w') : ER w' B v xs := h.frt (FrT.of_below k)
theorem ER.mono {w : World} {B B' : Nat} {v : Value} {xs : List EntD} (h : ER w B v xs) (hb : B' ≤ B) : ER w B' v xs := ⟨ownsRow_mono h.row hb, fun x hx => (h.ents x hx).mono (fun i hi => Nat.le_trans hb hi), h.few⟩
theorem Pend.ownV {w : World} {B : Nat} {its : List Item} {e : EntD} {vs : List (Value × List Nat)} (h : Pend w B its ((e.vr, e.row) :: (e.vq, e.qual) :: (e.vv, e.val) :: vs)) (s : Small e) : OwnV w B e := by
  have a := h.ap
  simp only [List.map_cons, List.pairwise_cons] at a
  exact ⟨s.1, s.2.1, s.2.2, (h.own (e.vr, e.row) (by simp)).1, (h.own (e.vq, e.qual) (by simp)).1, (h.own (e.vv, e.val) (by simp)).1, a.1 _ (by simp), a.1 _ (by simp), a.2.1 _ (by simp)⟩
theorem KBox.new8 (w : World) : KBox (w.alloc (.cells #[.slice none 0 0, .slice none 0 0] 51)) w.heap.size (.slice none 0 0) (.slice none 0 0) := World.alloc_heap_new w _
theorem KBox.empty8 {w : World} {g : Nat} (h : KBox w g (.slice none 0 0) (.slice none 0 0)) : Bk w g g 0 [] :=
  ⟨⟨none, 0, none, 0, h, ⟨rfl, by simp, World.ownsRow_nil _ _ _ _⟩, ⟨rfl, by simp, World.ownsRow_nil _ _ _ _⟩, fun x hx => by cases hx⟩, by simp, by simp⟩
/-- The row of the four lists. -/
def R4 (w : World) (gl : Nat) (vs : List (Value × List EntD)) : Prop := w.heap[gl]? = some (.cells (vs.map Prod.fst).toArray 22 (0, 0))
theorem R4.cell {w : World} {gl u : Nat} {vs : List (Value × List EntD)} {p : Value × List EntD} (h : R4 w gl vs) (hp : vs[u]? = some p) : w.cell? ⟨gl, u, none⟩ = some p.1 := by
  unfold R4 at h
  simp [World.cell?, h, hp]
/-- What stands while the book is filled. -/
structure Lf (X : World) (N0 gl n : Nat) (its : List Item) (vs : List (Value × List EntD)) (ys : List EntD) (Y : World) : Prop where
  bel : Below N0 X Y
  bk : Bk Y N0 N0 n its
  pend : Pend Y N0 its (strs ys)
  row : R4 Y gl vs
  er : ∀ p ∈ vs, ER Y N0 p.1 p.2
  gs : N0 < Y.heap.size
theorem Lf.later {X Y Z : World} {N0 gl n : Nat} {its : List Item} {vs : List (Value × List EntD)} {ys : List EntD} (h : Lf X N0 gl n its vs ys Y) (k : Below Y.heap.size Y Z) : Lf X N0 gl n its vs ys Z :=
  ⟨h.bel.trans (k.mono (Nat.le_of_lt h.gs)), h.bk.later k, h.pend.later k, (k.block gl (Array.getElem?_eq_some_iff.1 h.row).1).trans h.row, fun p hp => (h.er p hp).later k, Nat.lt_of_lt_of_le h.gs k.size⟩
theorem Lf.keep {X Y Z : World} {N0 gl n m : Nat} {its js : List Item} {vs : List (Value × List EntD)} {ys zs : List EntD} (h : Lf X N0 gl n its vs ys Y) (b : Bk Z N0 N0 m js) (p : Pend Z N0 js (strs zs)) (k : Below N0 Y Z) (T : FrT Y Z) : Lf X N0 gl m js vs zs Z :=
  ⟨h.bel.trans k, b, p, (T gl _ _ _ h.row (by decide) (by decide)).trans h.row, fun q hq => (h.er q hq).frt T, Nat.lt_of_lt_of_le h.gs k.size⟩
/-- The four lists: how many there are, what each holds. -/
structure Four (vs : List (Value × List EntD)) (R D : List EntD) : Prop where
  len : vs.length = 4
  sm : ∀ u p, vs[u]? = some p → Sm p.2 (if u < 2 then D else R)
  small : ∀ p ∈ vs, ∀ x ∈ p.2, Small x
theorem flat_drop {α β : Type} {vs : List (α × List β)} {u : Nat} {p : α × List β} (h : vs[u]? = some p) : (vs.drop u).flatMap Prod.snd = p.2 ++ (vs.drop (u + 1)).flatMap Prod.snd := by
  obtain ⟨hu, rfl⟩ := List.getElem?_eq_some_iff.1 h
  rw [List.drop_eq_getElem_cons hu, List.flatMap_cons]
theorem strs_drop {xs zs : List EntD} {q : Nat} {x : EntD} (h : xs[q]? = some x) : strs (xs.drop q ++ zs) = (x.vr, x.row) :: (x.vq, x.qual) :: (x.vv, x.val) :: strs (xs.drop (q + 1) ++ zs) := by
  obtain ⟨hu, rfl⟩ := List.getElem?_eq_some_iff.1 h
  rw [List.drop_eq_getElem_cons hu]
  rfl
theorem Sm.symm' : ∀ {a b : List EntD}, Sm a b → Sm b a
  | [], [], _ => trivial
  | _ :: _, _ :: _, h => ⟨h.1.symm, Sm.symm' h.2⟩
  | [], _ :: _, h => h.elim
  | _ :: _, [], h => h.elim
theorem Sm.trans' : ∀ {a b c : List EntD}, Sm a b → Sm b c → Sm a c
  | [], [], [], _, _ => trivial
  | _ :: _, _ :: _, _ :: _, h, k => ⟨h.1.trans k.1, Sm.trans' h.2 k.2⟩
  | [], _ :: _, _, h, _ => h.elim
  | _ :: _, [], _, h, _ => h.elim
  | [], [], _ :: _, _, k => k.elim
  | _ :: _, _ :: _, [], _, k => k.elim
theorem Sm.mem' : ∀ {a b : List EntD}, Sm a b → ∀ x ∈ a, ∃ y ∈ b, EntD.Same x y
  | [], [], _, x, hx => by simp at hx
  | y :: _, z :: _, h, x, hx => by
    simp only [List.mem_cons] at hx
    rcases hx with rfl | hx
    · exact ⟨z, by simp, h.1⟩
    · obtain ⟨q, hq, hs⟩ := Sm.mem' h.2 x hx
      exact ⟨q, by simp [hq], hs⟩
  | [], _ :: _, h, _, _ => h.elim
  | _ :: _, [], h, _, _ => h.elim
/-- What a range over a table hands out, against the reference's list. -/
theorem small_all {w : World} {B : Nat} {v : Value} {xs L : List EntD} {G : Nat → Prop} {X : World} {t : Nat} {k : Int} {f : Bool} (tb : Tb G X t L k f) (h : ER w B v xs) {L' : List EntD} (hs : Sm xs L') (hsub : ∀ y ∈ L', y ∈ L) : ∀ x ∈ xs, Small x := fun x hx => by
  obtain ⟨y, hy, s⟩ := hs.mem' x hx
  exact small_of (h.ents x hx).ok s (tb.good y (hsub y hy))
/-- What from or rows hands out, against the reference's list. -/
def FrP (Z : World) (D : List EntD) (z : Ending) (w' : World) : Prop := ∃ v xs, z = .returned v ∧ ER w' Z.heap.size v xs ∧ Sm xs D ∧ (∀ x ∈ xs, Small x) ∧ OL w' Z.heap.size xs ∧ Below Z.heap.size Z w'
theorem mem_dropWhile {α : Type} {p : α → Bool} : ∀ {l : List α} {x : α}, x ∈ l.dropWhile p → x ∈ l
  | y :: l, x, h => by
    rw [List.dropWhile_cons] at h
    split at h
    · exact List.mem_cons_of_mem _ (mem_dropWhile h)
    · exact h
theorem from_frp {G : Nat → Prop} {Z : World} {t : Nat} {L R : List EntD} {k : Int} {f : Bool} {e : EntD} (hb : Tb G Z t L k f) (he : EntD.Ok Z e) (h47 : e.row.length ≤ 140737488355328 ∧ e.qual.length ≤ 140737488355328) (hs : Sm R L) (hl : L.length ≤ 30) :
    Calls Try.prog 21 #[.pointer (some ⟨t, 0, none⟩), .agg e.cells] Z (FrP Z (R.dropWhile (fun y => decide (compareS y e < 0)))) := by
  refine (fromLO_any he h47 hb (by omega)).mono ?_
  rintro z w' ⟨v, xs, rfl, h1, h2, h3, h4, h5⟩
  have hlen : xs.length ≤ 30 := by
    rw [h2.len]
    have := (List.dropWhile_sublist (fun y => decide (compareS y e < 0)) (l := L)).length_le
    omega
  have er : ER w' Z.heap.size v xs := ⟨h1, h3, hlen⟩
  exact ⟨v, xs, rfl, er, h2.trans' (Sm.dropW ⟨rfl, rfl, rfl, rfl, rfl, rfl, rfl⟩ hs).symm', small_all hb er h2 (fun y hy => mem_dropWhile hy), h4, h5⟩
theorem rows_frp {G : Nat → Prop} {Z : World} {t : Nat} {L R : List EntD} {k : Int} {f : Bool} (hb : Tb G Z t L k f) (hs : Sm R L) (hl : L.length ≤ 30) :
    Calls Try.prog 10 #[.pointer (some ⟨t, 0, none⟩)] Z (FrP Z R) := by
  refine (rowsO_any hb (by omega)).mono ?_
  rintro z w' ⟨v, xs, rfl, h1, h2, h3, h4, h5⟩
  have er : ER w' Z.heap.size v xs := ⟨h1, h3, by rw [h2.len]; omega⟩
  exact ⟨v, xs, rfl, er, h2.trans' hs.symm', small_all hb er h2 (fun y hy => hy), h4, h5⟩
theorem Lf.start {X Y w0 w1 w2 w3 w4 : World} {N0 m : Nat} {its : List Item} {v1 v2 v3 v4 : Value} {x1 x2 x3 x4 : List EntD} (b : Below N0 X Y) (k : Bk Y N0 N0 m its) (hs : N0 < Y.heap.size) (b0 : Below Y.heap.size Y w0)
    (e1 : ER w1 w0.heap.size v1 x1) (s1 : ∀ x ∈ x1, Small x) (o1 : OL w1 w0.heap.size x1) (b1 : Below w0.heap.size w0 w1) (e2 : ER w2 w1.heap.size v2 x2) (s2 : ∀ x ∈ x2, Small x) (o2 : OL w2 w1.heap.size x2) (b2 : Below w1.heap.size w1 w2)
    (e3 : ER w3 w2.heap.size v3 x3) (s3 : ∀ x ∈ x3, Small x) (o3 : OL w3 w2.heap.size x3) (b3 : Below w2.heap.size w2 w3) (e4 : ER w4 w3.heap.size v4 x4) (s4 : ∀ x ∈ x4, Small x) (o4 : OL w4 w3.heap.size x4) (b4 : Below w3.heap.size w3 w4) :
    Lf X N0 w4.heap.size m its [(v1, x1), (v2, x2), (v3, x3), (v4, x4)] (([(v1, x1), (v2, x2), (v3, x3), (v4, x4)].drop 0).flatMap Prod.snd) (w4.alloc (.cells #[v1, v2, v3, v4] 22)) := by
  have z0 : N0 ≤ w0.heap.size := Nat.le_trans (Nat.le_of_lt hs) b0.size
  have z1 := Nat.le_trans z0 b1.size
  have z2 := Nat.le_trans z1 b2.size
  have z3 := Nat.le_trans z2 b3.size
  have z4 := Nat.le_trans z3 b4.size
  have k0 := k.later b0
  have k1 := k0.later b1
  have k2 := k1.later b2
  have k3 := k2.later b3
  have A : Below w4.heap.size w4 (w4.alloc (.cells #[v1, v2, v3, v4] 22)) := (Below.refl _ _).alloc (Nat.le_refl _) _
  have p1 := (Pend.nil w0 N0 its).pushL k0 b1 o1 z0 s1
  have p2 := p1.pushL k1 b2 o2 z1 s2
  have p3 := p2.pushL k2 b3 o3 z2 s3
  have p4 := (p3.pushL k3 b4 o4 z3 s4).later A
  refine ⟨b.trans ((((((b0.mono (Nat.le_of_lt hs)).trans (b1.mono z0)).trans (b2.mono z1)).trans (b3.mono z2)).trans (b4.mono z3)).trans (A.mono z4)), (k3.later b4).later A, ?_, World.alloc_heap_new w4 _, fun p hp => ?_, ?_⟩
  · have e : strs (([(v1, x1), (v2, x2), (v3, x3), (v4, x4)].drop 0).flatMap Prod.snd) = [] ++ strs x1 ++ strs x2 ++ strs x3 ++ strs x4 := by simp [strs_app]
    rw [e]
    exact p4
  · simp only [List.mem_cons, List.not_mem_nil, or_false] at hp
    rcases hp with rfl | rfl | rfl | rfl
    · exact ((((e1.mono z0).later b2).later b3).later b4).later A
    · exact (((e2.mono z1).later b3).later b4).later A
    · exact ((e3.mono z2).later b4).later A
    · exact (e4.mono z3).later A
  · have := A.size
    simp
    omega
theorem Four.mk4 {v1 v2 v3 v4 : Value} {x1 x2 x3 x4 R D : List EntD} (m1 : Sm x1 D) (m2 : Sm x2 D) (m3 : Sm x3 R) (m4 : Sm x4 R) (s1 : ∀ x ∈ x1, Small x) (s2 : ∀ x ∈ x2, Small x) (s3 : ∀ x ∈ x3, Small x) (s4 : ∀ x ∈ x4, Small x) : Four [(v1, x1), (v2, x2), (v3, x3), (v4, x4)] R D := by
  refine ⟨rfl, fun u p hp => ?_, fun p hp => ?_⟩
  · match u, hp with
    | 0, hp => simp at hp; subst hp; exact m1
    | 1, hp => simp at hp; subst hp; exact m2
    | 2, hp => simp at hp; subst hp; exact m3
    | 3, hp => simp at hp; subst hp; exact m4
    | u + 4, hp => simp at hp
  · simp only [List.mem_cons, List.not_mem_nil, or_false] at hp
    rcases hp with rfl | rfl | rfl | rfl
    · exact s1
    · exact s2
    · exact s3
    · exact s4
end Go.Proofs.Ytnjopfdeapclhaa
