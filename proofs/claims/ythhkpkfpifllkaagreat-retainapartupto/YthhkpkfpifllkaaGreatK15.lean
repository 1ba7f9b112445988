import Derived.Test.YthhkpkfpifllkaaGreatK14
namespace Go.Proofs.YthhkpkfpifllkaaGreat
open Go.RowKit
set_option linter.unusedVariables false

section
variable {fs : List (Int × Int)} {clock : Int}
def readR (t n : Int) (v : List En) : List En := v.foldl (fun r e => if e.ts ≤ t ∧ ((r.filter fun y => mates y e).length : Int) < n then r ++ [e] else r) []
theorem readR_snoc (t n : Int) (v : List En) (e : En) : readR t n (v ++ [e]) = if e.ts ≤ t ∧ (((readR t n v).filter fun y => mates y e).length : Int) < n then readR t n v ++ [e] else readR t n v := by
  unfold readR
  rw [List.foldl_append]
  rfl
theorem readR_sub (t n : Int) (v : List En) (e : En) (h : e ∈ readR t n v) : e ∈ v := by
  have key : ∀ (v r : List En), e ∈ v.foldl (fun r e => if e.ts ≤ t ∧ ((r.filter fun y => mates y e).length : Int) < n then r ++ [e] else r) r → e ∈ r ∨ e ∈ v := by
    intro v
    induction v with
    | nil => intro r h; exact .inl h
    | cons x v ih =>
      intro r h
      rw [List.foldl_cons] at h
      rcases ih _ h with q | q
      · split at q
        · rcases List.mem_append.1 q with q | q
          · exact .inl q
          · rw [List.mem_singleton] at q
            exact .inr (by rw [q]; exact List.mem_cons_self)
        · exact .inl q
      · exact .inr (List.mem_cons_of_mem _ q)
  rcases key v [] h with q | q
  · cases q
  · exact q
structure RI (t n : Int) (E P : List En) : Prop where
  out : (showS t n (P.map fun e => ⟨e, 5, rankIn E e⟩)).2 = readR t n (P.filter fun e => decide (e.kind = 1))
  cnt : ∀ l, P.getLast? = some l → (showS t n (P.map fun e => ⟨e, 5, rankIn E e⟩)).1 = (((showS t n (P.map fun e => ⟨e, 5, rankIn E e⟩)).2.filter fun y => mates y l).length : Int)
  le : (showS t n (P.map fun e => ⟨e, 5, rankIn E e⟩)).1 ≤ n
theorem RI.step {t n : Int} {E P Q : List En} {e : En} (hE : E = P ++ e :: Q) (hs : E.Pairwise Ah) (h3 : ∀ x ∈ E, x.kind ≤ 3) (hD : ∀ x ∈ E, ∀ y ∈ E, mates x y = true → x.ts = y.ts → x = y) (hn : 0 ≤ n) (h : RI t n E P) : RI t n E (P ++ [e]) := by
  have hp := List.pairwise_append.1 (hE ▸ hs)
  have hq := List.pairwise_cons.1 hp.2.1
  have eE : e ∈ E := by rw [hE]; simp
  have pE : ∀ y ∈ P, y ∈ E := fun y hy => by rw [hE]; exact List.mem_append_left _ hy
  have above : ∀ y ∈ P, mates y e = true → e.ts < y.ts := fun y hy M => by
    have a := hp.2.2 y hy e List.mem_cons_self
    have m := mates_iff.1 M
    have k1 := h3 y (pE y hy)
    have k2 := h3 e eE
    have t1 := a.ts m.1 m.2.1 (by omega) m.2.2 (by omega)
    have : y.ts ≠ e.ts := fun z => by
      have := hD y (pE y hy) e eE M z
      subst this
      exact ah_irrefl a
    omega
  obtain ⟨S, hS⟩ : ∃ S, S = showS t n (P.map fun e => (⟨e, 5, rankIn E e⟩ : Vd)) := ⟨_, rfl⟩
  have sub : ∀ y ∈ S.2, y ∈ P := fun y hy => by
    rw [hS, h.out] at hy
    exact (List.mem_filter.1 (readR_sub t n _ y hy)).1
  obtain ⟨c, hc⟩ : ∃ c : Int, c = if rankIn E e = 1 then 0 else S.1 := ⟨_, rfl⟩
  have hcc : c = ((S.2.filter fun y => mates y e).length : Int) := by
    by_cases hno : ∃ y ∈ P, mates y e = true
    · obtain ⟨y, hy, M⟩ := hno
      have hr : rankIn E e ≠ 1 := fun z => by
        unfold rankIn at z
        have : y ∈ E.filter fun y => mates y e && decide (e.ts < y.ts) := List.mem_filter.2 ⟨pE y hy, by simp [M, above y hy M]⟩
        have := List.length_pos_of_mem this
        omega
      rw [hc, if_neg hr]
      cases hl : P.getLast? with
      | none => rw [List.getLast?_eq_none_iff] at hl; rw [hl] at hy; cases hy
      | some l =>
        obtain ⟨P', hP⟩ := List.getLast?_eq_some_iff.1 hl
        have lP : l ∈ P := by rw [hP]; simp
        have al := hp.2.2 l lP e List.mem_cons_self
        have yl : y = l ∨ Ah y l := by
          rw [hP] at hy
          rcases List.mem_append.1 hy with q | q
          · have := (List.pairwise_append.1 (hP ▸ hp.1)).2.2 y q l (by simp)
            exact .inr this
          · rw [List.mem_singleton] at q; exact .inl q
        have m := mates_iff.1 M
        have f := Ah.midF yl al m.1 m.2.1
        have k1 := h3 y (pE y hy)
        have q := Ah.midC yl al m.1 m.2.1 (by omega) m.2.2
        have ml : mates l e = true := mates_iff.2 ⟨f.1, f.2, q.2.1⟩
        rw [hS, h.cnt l hl, ← hS]
        congr 2
        apply List.filter_congr
        intro z _
        exact mates_same ml z
    · have no : ∀ y ∈ P, mates y e = false := fun y hy => by
        cases z : mates y e with
        | false => rfl
        | true => exact absurd ⟨y, hy, z⟩ hno
      have hr : rankIn E e = 1 := by
        unfold rankIn
        have : (E.filter fun y => mates y e && decide (e.ts < y.ts)) = [] := List.filter_eq_nil_iff.2 fun y hy hyy => by
          simp only [Bool.and_eq_true, decide_eq_true_eq] at hyy
          rw [hE] at hy
          rcases List.mem_append.1 hy with q | q
          · rw [no y q] at hyy; exact absurd hyy.1 (by simp)
          · rcases List.mem_cons.1 q with rfl | q
            · omega
            · have a := hq.1 y q
              have m := mates_iff.1 hyy.1
              have k1 := h3 y (by rw [hE]; exact List.mem_append_right _ (List.mem_cons_of_mem _ q))
              have k2 := h3 e eE
              have := a.ts m.1.symm m.2.1.symm (by omega) m.2.2.symm (by omega)
              omega
        rw [this]; rfl
      rw [hc, if_pos hr]
      have : (S.2.filter fun y => mates y e) = [] := List.filter_eq_nil_iff.2 fun y hy => by rw [no y (sub y hy)]; simp
      rw [this]; rfl
  have hcn : c ≤ n := by
    rw [hc]
    split
    · exact hn
    · rw [hS]; exact h.le
  have c0 : 0 ≤ c := by rw [hcc]; omega
  have es : showS t n ((P ++ [e]).map fun e => (⟨e, 5, rankIn E e⟩ : Vd)) = if e.kind = 1 ∧ e.ts ≤ t ∧ c < n then (c + 1, S.2 ++ [e]) else (c, S.2) := by
    rw [List.map_append, List.map_singleton, showS_snoc, ← hS]
    unfold showStep
    simp only
    rw [← hc]
    by_cases z : e.kind = 1 ∧ e.ts ≤ t ∧ c < n
    · rw [if_pos z, if_pos ⟨by trivial, z.1, z.2.1, by omega⟩]
    · rw [if_neg z, if_neg (fun y => z ⟨y.2.1, y.2.2.1, by omega⟩)]
  have er : readR t n ((P ++ [e]).filter fun e => decide (e.kind = 1)) = if e.kind = 1 ∧ e.ts ≤ t ∧ c < n then S.2 ++ [e] else S.2 := by
    rw [List.filter_append]
    by_cases k : e.kind = 1
    · rw [show ([e].filter fun e => decide (e.kind = 1)) = [e] by simp [k], readR_snoc, ← h.out, ← hS, ← hcc]
      by_cases z : e.ts ≤ t ∧ c < n
      · rw [if_pos z, if_pos ⟨k, z⟩]
      · rw [if_neg z, if_neg (fun y => z y.2)]
    · rw [show ([e].filter fun e => decide (e.kind = 1)) = [] by simp [k], List.append_nil, ← h.out, ← hS, if_neg (fun y => k y.1)]
  refine ⟨?_, fun l hl => ?_, ?_⟩
  · rw [es, er]
    split <;> rfl
  · have : l = e := by simpa using hl.symm
    subst this
    rw [es]
    split
    · simp only [List.filter_append, List.length_append]
      have : mates l l = true := mates_iff.2 ⟨rfl, rfl, rfl⟩
      simp [this, hcc]
    · exact hcc
  · rw [es]
    split
    · rename_i z; simp only; omega
    · exact hcn
theorem RI.all {t n : Int} {E : List En} (hs : E.Pairwise Ah) (h3 : ∀ x ∈ E, x.kind ≤ 3) (hD : ∀ x ∈ E, ∀ y ∈ E, mates x y = true → x.ts = y.ts → x = y) (hn : 0 ≤ n) : ∀ (Q P : List En), E = P ++ Q → RI t n E P → RI t n E E
  | [], P, e, h => by rw [List.append_nil] at e; rw [e] at h ⊢; exact h
  | x :: Q, P, e, h => RI.all hs h3 hD hn Q (P ++ [x]) (by rw [e, List.append_assoc]; rfl) (h.step e hs h3 hD hn)
theorem read_five {t n : Int} {E : List En} (hs : E.Pairwise Ah) (h3 : ∀ x ∈ E, x.kind ≤ 3) (hD : ∀ x ∈ E, ∀ y ∈ E, mates x y = true → x.ts = y.ts → x = y) (hn : 0 ≤ n) : (showS t n (E.map fun e => ⟨e, 5, rankIn E e⟩)).2 = readR t n (E.filter fun e => decide (e.kind = 1)) :=
  (RI.all hs h3 hD hn E [] rfl ⟨rfl, (fun l hl => by cases hl), hn⟩).out
theorem read_ref {m : List En} (hM : ∀ e ∈ m, 1 ≤ (famAt fs e.fam).1) (hs : m.Pairwise Ah) (hv : ∀ e ∈ m, Va e) {t n : Int} (hn : 0 ≤ n) : (showS t n (verdictsS fs clock m)).2 = readR t n (m.filter (visB fs clock m)) := by
  rw [show_five hM hs hv, read_five (five_sorted hs) five_three (five_dist hs) hn, vis_five]
end
end Go.Proofs.YthhkpkfpifllkaaGreat

namespace Go.Proofs.YthhkpkfpifllkaaGreat
open Go.RowKit Go.Maps
set_option linter.unusedVariables false

end Go.Proofs.YthhkpkfpifllkaaGreat

namespace Go.Proofs.YthhkpkfpifllkaaGreat
open Go.RowKit Go.Maps
set_option linter.unusedVariables false

def wideL : List Nat := [91, 92, 93, 94, 95]
end Go.Proofs.YthhkpkfpifllkaaGreat

namespace Go.Proofs.YthhkpkfpifllkaaGreat
open Go.RowKit Go.Maps
set_option linter.unusedVariables false

def ShrtW (e : EntD) : Prop := e.row.length ≤ 140737488351232 ∧ e.qual.length ≤ 140737488351232 ∧ e.val.length ≤ 140737488351232
def Tyd (w : World) (g : Nat) (ty : TypeId) : Prop := ∃ cur fr, w.heap[g]? = some (.cells cur ty fr)
theorem row_tyd {w : World} {B n s g : Nat} {e : TypeId} {v : Value} {xs : List Value} (h : w.ownsRow B e s v n xs) (hg : v.ownBlock = some g) : Tyd w g e := by
  rcases h.2 with ⟨rfl, _⟩ | ⟨g1, cap, cur, rfl, _, hh, _⟩
  · simp [Value.ownBlock] at hg
  · simp only [Value.ownBlock, Option.some.injEq] at hg
    subst hg
    exact ⟨cur, _, hh⟩
theorem Tyd.ne {w : World} {g g' : Nat} {e e' : TypeId} (h : Tyd w g e) (h' : Tyd w g' e') (hne : e ≠ e') : g ≠ g' := fun z => by
  subst z
  obtain ⟨c, f, h⟩ := h
  obtain ⟨c', f', h'⟩ := h'
  rw [h] at h'
  simp only [Option.some.injEq, Obj.cells.injEq] at h'
  exact hne h'.2.1
theorem Tyd.lt {w : World} {g : Nat} {e : TypeId} (h : Tyd w g e) : g < w.heap.size := by
  obtain ⟨c, f, h⟩ := h
  exact (Array.getElem?_eq_some_iff.1 h).1
structure Wd (w : World) (B : Nat) (v u : Value) (bs : List Nat) : Prop where
  form : ∃ g c, v = .slice (some ⟨g, 0, none⟩) bs.length c ∧ u = .slice (some ⟨g, 0, none⟩) (bs.length + 5) c
  own : Own w B u (bs.length + 5) (bs ++ wideL)
structure Re (w : World) (B : Nat) (x y : EntD) (u1 u2 u3 : Value) : Prop where
  dat : y.dat = x.dat
  r : Wd w B y.vr u1 x.row
  q : Wd w B y.vq u2 x.qual
  v : Wd w B y.vv u3 x.val
def RBx (w : World) (g : Nat) (vL vW : Value) : Prop := w.heap[g]? = some (.cells #[vL, vW] 37 (0, 0))
def Apt (u v : Value) : Prop := ∀ g, u.ownBlock = some g → v.ownBlock ≠ some g
structure Rm (B : Nat) (w : World) (g : Nat) (l : List EntD) (t : Nat) (ys : List EntD) (us : List Value) (vL vW : Value) : Prop where
  box : RBx w g vL vW
  gB : B ≤ g
  rL : w.ownsRow B 84 7 vL ys.length (evals ys)
  rW : w.ownsRow B 82 1 vW us.length us
  ul : us.length = 3 * t
  yl : t ≤ ys.length
  el : ∀ i, i < t → ∃ x y u1 u2 u3, l[i]? = some x ∧ ys[i]? = some y ∧ us[3 * i]? = some u1 ∧ us[3 * i + 1]? = some u2 ∧ us[3 * i + 2]? = some u3 ∧ Re w B x y u1 u2 u3
  ap : us.Pairwise Apt
end Go.Proofs.YthhkpkfpifllkaaGreat

namespace Go.Proofs.YthhkpkfpifllkaaGreat
open Go.RowKit
set_option linter.unusedVariables false

def ovr (x e : En) : Bool := (decide (x.kind = 5) && decide (x.fam = e.fam) && decide (x.row = e.row)) || (decide (x.kind = e.kind) && mates x e)
def upT (x e : En) : Bool := decide (e.ts < x.ts) || (decide (x.ts = e.ts) && (decide (e.kind < x.kind) || decide (e.seq < x.seq)))
end Go.Proofs.YthhkpkfpifllkaaGreat

namespace Go.Proofs.YthhkpkfpifllkaaGreat
open Go.RowKit
set_option linter.unusedVariables false

section
variable {fs : List (Int × Int)} {clock : Int}
def fateN (fs : List (Int × Int)) (clock : Int) (major : Bool) (low : Int) (m : List En) (e : En) : Int :=
  if 4 ≤ e.kind then (if shadow m e || (major && decide (e.ts ≤ low)) then 5 else 0)
  else if decidesS m e = false then 1
  else if e.ts ≤ maskOf m e then 2
  else if expS fs clock e then 3
  else if hasPut m e = false then (if major then 5 else 0)
  else if (famAt fs e.fam).1 < above fs clock m e + 1 then 4
  else 0
def fateE (m : List En) (e : En) : En := if 4 ≤ e.kind then e else if hasPut m e = false then e else hk e
end
end Go.Proofs.YthhkpkfpifllkaaGreat

namespace Go.Proofs.YthhkpkfpifllkaaGreat
open Go.RowKit Go.Maps
set_option linter.unusedVariables false

structure FK (Z : World) (gs gr ge : Nat) (v : Value) (e : EntD) : Prop where
  sc : Z.cell? ⟨gs, 0, none⟩ = some v
  rz : Z.heap[gr]? = some (.cells #[.slice none 0 0, .int .i64 0, .slice none 0 0, .int .i64 0, .int .i64 0, .int .i64 0, .slice none 0 0] 84 (0, 0))
  be : EBox Z ge e
def FateP (fs : List FamD) (clock : Int) (major : Bool) (low : Int) (m : List En) (W0 : World) (e : EntD) (N : Int) (y : EntD) (W' : World) : Prop :=
  N = fateN (mt fs) clock major low m e.dat ∧ EntD.Ok W' y ∧ (y.row = e.row ∧ y.qual = e.qual ∧ (y.val = e.val ∨ y.val = [])) ∧ (N = 0 → y.dat = fateE m e.dat) ∧ Below W0.heap.size W0 W'
end Go.Proofs.YthhkpkfpifllkaaGreat

namespace Go.Proofs.YthhkpkfpifllkaaGreat
open Go.RowKit Go.Maps
set_option linter.unusedVariables false

end Go.Proofs.YthhkpkfpifllkaaGreat

namespace Go.Proofs.YthhkpkfpifllkaaGreat
open Go.RowKit Go.Maps
set_option linter.unusedVariables false

end Go.Proofs.YthhkpkfpifllkaaGreat

namespace Go.Proofs.YthhkpkfpifllkaaGreat
open Go.RowKit Go.Maps
set_option linter.unusedVariables false

end Go.Proofs.YthhkpkfpifllkaaGreat

namespace Go.Proofs.YthhkpkfpifllkaaGreat
open Go.RowKit
set_option linter.unusedVariables false

inductive Pushed (fs : List (Int × Int)) (clock : Int) (k : Nat) : List EntD → List EntD → Sp → List Vd → Prop
  | nil : Pushed fs clock k [] [] Sp.zero []
  | twin {l m : List EntD} {s : Sp} {vs : List Vd} {e y : EntD} (h : Pushed fs clock k l m s vs) (hy : m.getLast? = some y) (he : y.dat = e.dat) : Pushed fs clock k (l ++ [e]) m s (vs ++ [⟨e.dat, 1, 0⟩])
  | step {l m : List EntD} {s : Sp} {vs : List Vd} {e : EntD} (h : Pushed fs clock k l m s vs) (ho : ∀ y ∈ m, compareS y e ≤ 0 ∧ y.seq ≠ e.seq) (hc : check3S k e = 0) : Pushed fs clock k (l ++ [e]) (m ++ [e]) (stepS fs clock s e.dat).2 (vs ++ (stepS fs clock s e.dat).1)
section
variable {fs : List (Int × Int)} {clock : Int} {k : Nat} {l m : List EntD} {s : Sp} {vs : List Vd}
theorem Pushed.state (h : Pushed fs clock k l m s vs) : s = (walkS fs clock Sp.zero (m.map EntD.dat)).2 ∧ vs.filter kept = (walkS fs clock Sp.zero (m.map EntD.dat)).1.filter kept ∧ vs.length + m.length = (walkS fs clock Sp.zero (m.map EntD.dat)).1.length + l.length := by
  induction h with
  | nil => exact ⟨rfl, rfl, rfl⟩
  | twin h hy he ih =>
    refine ⟨ih.1, ?_, ?_⟩
    · rw [List.filter_append, ih.2.1]
      simp [kept]
    · have := ih.2.2
      simp only [List.length_append, List.length_cons, List.length_nil]
      omega
  | @step l m s vs e h ho hc ih =>
    have e1 := walk_snoc (fs := fs) (clock := clock) Sp.zero (m.map EntD.dat) e.dat
    rw [List.map_append, List.map_cons, List.map_nil, e1, ← ih.1]
    refine ⟨rfl, ?_, ?_⟩
    · rw [List.filter_append, List.filter_append, ih.2.1]
    · have := ih.2.2
      simp only [List.length_append, List.length_cons, List.length_nil]
      omega
theorem Pushed.ord (h : Pushed fs clock k l m s vs) : (m.Pairwise fun x y => compareS x y ≤ 0) ∧ (m.Pairwise fun x y => x.seq ≠ y.seq) ∧ (∀ x ∈ m, check3S k x = 0 ∧ x ∈ l) ∧ ∀ d, d ∈ m.map EntD.dat ↔ d ∈ l.map EntD.dat := by
  induction h with
  | nil => exact ⟨.nil, .nil, by simp, fun d => Iff.rfl⟩
  | twin h hy he ih =>
    refine ⟨ih.1, ih.2.1, fun x hx => ⟨(ih.2.2.1 x hx).1, List.mem_append_left _ (ih.2.2.1 x hx).2⟩, fun d => ?_⟩
    rw [List.map_append, List.mem_append, ih.2.2.2 d]
    refine ⟨fun q => .inl q, fun q => q.elim id (fun q => ?_)⟩
    rw [List.map_cons, List.map_nil, List.mem_singleton] at q
    rw [← ih.2.2.2 d, q, ← he]
    exact List.mem_map_of_mem (List.mem_of_getLast? hy)
  | step h ho hc ih =>
    refine ⟨List.pairwise_append.2 ⟨ih.1, List.pairwise_singleton _ _, fun x hx y hy => ?_⟩, List.pairwise_append.2 ⟨ih.2.1, List.pairwise_singleton _ _, fun x hx y hy => ?_⟩, fun x hx => ?_, fun d => ?_⟩
    · rw [List.mem_singleton] at hy
      rw [hy]; exact (ho x hx).1
    · rw [List.mem_singleton] at hy
      rw [hy]; exact (ho x hx).2
    · rcases List.mem_append.1 hx with q | q
      · exact ⟨(ih.2.2.1 x q).1, List.mem_append_left _ (ih.2.2.1 x q).2⟩
      · rw [List.mem_singleton] at q
        rw [q]; exact ⟨hc, List.mem_append_right _ List.mem_cons_self⟩
    · rw [List.map_append, List.map_append, List.mem_append, List.mem_append, ih.2.2.2 d]
theorem Pushed.isOrd (h : Pushed fs clock k l m s vs) : IsOrd k (l.map EntD.dat) (m.map EntD.dat) := by
  obtain ⟨h1, h2, h3, h4⟩ := h.ord
  refine ⟨?_, ?_, fun e he => ?_, fun e he => ?_, h4⟩
  · rw [List.pairwise_map]
    exact (h1.and h2).imp fun h => ah_of h.1 h.2
  · rw [List.pairwise_map]; exact h2
  · obtain ⟨y, hy, rfl⟩ := List.mem_map.1 he
    exact va_of_check (h3 y hy).1
  · obtain ⟨y, hy, rfl⟩ := List.mem_map.1 he
    exact (h3 y hy).1
theorem out_kept (major : Bool) (low : Int) (us : List Vd) : outS major low us = outS major low (us.filter kept) := by
  unfold outS
  rw [List.filter_filter]
  congr 1
  refine List.filter_congr fun v _ => ?_
  unfold staysS kept
  by_cases h : v.fate = 1
  · simp [h]
  · simp [h]
theorem out_append (major : Bool) (low : Int) (us ws : List Vd) : outS major low (us ++ ws) = outS major low us ++ outS major low ws := by
  unfold outS
  rw [List.filter_append, List.map_append]
theorem Pushed.out (h : Pushed fs clock k l m s vs) (major : Bool) (low : Int) : outS major low vs = outS major low (walkS fs clock Sp.zero (m.map EntD.dat)).1 ∧ outS major low (vs ++ (resolveS fs clock s 3).1) = outS major low (verdictsS fs clock (m.map EntD.dat)) := by
  obtain ⟨h1, h2, h3⟩ := h.state
  have q : outS major low vs = outS major low (walkS fs clock Sp.zero (m.map EntD.dat)).1 := by rw [out_kept, h2, ← out_kept]
  refine ⟨q, ?_⟩
  rw [out_append, q, h1, ← out_append]
  rfl
def fCnt (us : List Vd) (p : Vd → Bool) : Int := ((us.filter p).length : Nat)
end
end Go.Proofs.YthhkpkfpifllkaaGreat

namespace Go.Proofs.YthhkpkfpifllkaaGreat
open Go.RowKit
set_option linter.unusedVariables false

section
variable {fs : List (Int × Int)} {clock : Int}
def whyV (major : Bool) (low : Int) (v : Vd) : Int := if staysS major low v then 0 else if v.fate = 1 then 1 else if v.fate = 2 then 2 else if v.fate = 3 then 3 else if v.fate = 4 then 4 else 5
def refCt (fs : List (Int × Int)) (clock : Int) (major : Bool) (low : Int) (n : Nat) (m : List En) : Ct :=
  ⟨((n : Int) - m.length) + ((m.filter fun e => decide (fateN fs clock major low m e = 1)).length : Nat), ((m.filter fun e => decide (fateN fs clock major low m e = 2)).length : Nat), ((m.filter fun e => decide (fateN fs clock major low m e = 3)).length : Nat), ((m.filter fun e => decide (fateN fs clock major low m e = 4)).length : Nat), ((m.filter fun e => decide (fateN fs clock major low m e = 5)).length : Nat)⟩
def refCtP (fs : List (Int × Int)) (clock : Int) (major : Bool) (low : Int) (n : Nat) (m p : List En) : Ct :=
  ⟨((n : Int) - m.length) + ((p.filter fun e => decide (fateN fs clock major low m e = 1)).length : Nat), ((p.filter fun e => decide (fateN fs clock major low m e = 2)).length : Nat), ((p.filter fun e => decide (fateN fs clock major low m e = 3)).length : Nat), ((p.filter fun e => decide (fateN fs clock major low m e = 4)).length : Nat), ((p.filter fun e => decide (fateN fs clock major low m e = 5)).length : Nat)⟩
def Ct.incN (c : Ct) (k : Int) : Ct := if k = 1 then { c with o := c.o + 1 } else if k = 2 then { c with m := c.m + 1 } else if k = 3 then { c with x := c.x + 1 } else if k = 4 then { c with a := c.a + 1 } else if k = 5 then { c with k := c.k + 1 } else c
end
end Go.Proofs.YthhkpkfpifllkaaGreat

namespace Go.Proofs.YthhkpkfpifllkaaGreat
open Go.RowKit Go.Maps
set_option linter.unusedVariables false

def CtBx (w : World) (d : Nat) (c : Ct) : Prop := w.heap[d]? = some (.cells #[.int .i64 c.o, .int .i64 c.m, .int .i64 c.x, .int .i64 c.a, .int .i64 c.k] 105 (0, 0))
section
variable {w w' : World} {d : Nat} {c : Ct}
end
end Go.Proofs.YthhkpkfpifllkaaGreat

namespace Go.Proofs.YthhkpkfpifllkaaGreat
open Go.RowKit Go.Maps
set_option linter.unusedVariables false

end Go.Proofs.YthhkpkfpifllkaaGreat

namespace Go.Proofs.YthhkpkfpifllkaaGreat
open Go.RowKit
set_option linter.unusedVariables false

theorem ownNil (w : World) (B : Nat) : Own w B (.slice none 0 0) 0 [] := ⟨rfl, World.ownsRow_nil _ _ _ _⟩
theorem ownCell {w : World} {B k g c : Nat} {xs : List Nat} (h : Own w B (.slice (some ⟨g, 0, none⟩) k c) k xs) {i : Nat} (hi : i < k) : w.cell? ⟨g, i, none⟩ = some (.int .u8 ((xs.getD i 0 : Nat) : Int)) := by
  rw [h.2.cellAt i (by omega)]
  have := h.1
  simp [bv, List.getElem?_eq_getElem (by omega : i < xs.length)]
theorem ownNonil {w : World} {B k c : Nat} {a : Option Addr} {xs : List Nat} (o : Own w B (.slice a k c) k xs) : (a = none ∧ k = 0 ∧ c = 0) ∨ ∃ g, a = some ⟨g, 0, none⟩ := by
  rcases o.2.2 with ⟨h1, h2⟩ | ⟨g, cap, cur, h1, _⟩
  · simp only [Value.slice.injEq] at h1
    exact .inl ⟨h1.1, h2, h1.2.2⟩
  · simp only [Value.slice.injEq] at h1
    exact .inr ⟨g, h1.1⟩
theorem ownAgain {w w' : World} {B n k g c cu : Nat} {xs ys : List Nat} (o : Own w B (.slice (some ⟨g, 0, none⟩) n c) n xs) (o' : Own w' B (.slice (some ⟨g, 0, none⟩) n c) n xs) (ou : Own w B (.slice (some ⟨g, 0, none⟩) k cu) k ys) (hc : ∀ i, i < k → w'.cell? ⟨g, i, none⟩ = w.cell? ⟨g, i, none⟩) : Own w' B (.slice (some ⟨g, 0, none⟩) k cu) k ys := by
  rcases o.2.2 with ⟨h1, _⟩ | ⟨g1, cap1, cur1, h1, h2, h3, h4, h5, h6, h7⟩
  · cases h1
  rcases o'.2.2 with ⟨k1, _⟩ | ⟨g2, cap2, cur2, k1, k2, k3, k4, k5, k6, k7⟩
  · cases k1
  rcases ou.2.2 with ⟨l1, _⟩ | ⟨g3, cap3, cur3, l1, l2, l3, l4, l5, l6, l7⟩
  · cases l1
  simp only [Value.slice.injEq, Option.some.injEq, Addr.mk.injEq, and_true, true_and] at h1 k1 l1
  obtain ⟨rfl, rfl⟩ := h1
  obtain ⟨rfl, rfl⟩ := k1
  obtain ⟨rfl, rfl⟩ := l1
  rw [h3] at l3
  simp only [Option.some.injEq, Obj.cells.injEq, and_true] at l3
  subst l3
  have hsz : cur2.size = cur1.size := by rw [k6, h6]
  refine ⟨ou.1, ou.2.1, .inr ⟨g, cu, cur2, rfl, l2, k3, l4, l5, by rw [hsz, l6], ?_⟩⟩
  rw [← l7]
  apply List.ext_getElem?
  intro i
  by_cases hi : i < k * 1
  · rw [List.getElem?_take_of_lt hi, List.getElem?_take_of_lt hi]
    have := hc i (by omega)
    simp only [World.cell?, k3, h3] at this
    simpa using this
  · rw [List.getElem?_take_eq_none (by omega), List.getElem?_take_eq_none (by omega)]
theorem ownPre {w w' : World} {B N k cv cu : Nat} {av au : Option Addr} {xs ys : List Nat} (ov : Own w B (.slice av N cv) N xs) (ov' : Own w' B (.slice av N cv) N xs) (gr : w.grownBy w' (Value.slice av N cv).ownBlock) (ou : Own w B (.slice au k cu) k ys) (hk : k ≤ N) : Own w' B (.slice au k cu) k ys := by
  by_cases hb : (Value.slice au k cu).ownBlock = (Value.slice av N cv).ownBlock
  · rcases ownNonil ou with ⟨rfl, rfl, rfl⟩ | ⟨g, rfl⟩
    · exact ⟨ou.1, ou.2.1, .inl ⟨rfl, rfl⟩⟩
    · rcases ownNonil ov with ⟨rfl, _, _⟩ | ⟨g2, rfl⟩
      · cases hb
      · simp only [Value.ownBlock, Option.some.injEq] at hb
        subst hb
        refine ownAgain ov ov' ou (fun i hi => ?_)
        rw [ownCell ov' (by omega : i < N), ownCell ov (by omega : i < N)]
  · exact ⟨ou.1, ou.2.kept gr (.inr hb)⟩
theorem appendKeep {w : World} {B n m c : Nat} {v : Value} {xs bs : List Nat} (ty : TypeId) (hown : Own w B v n xs) (ad : Addr) (hm : m = bs.length) (hnews : ∀ j u, (bv bs)[j]? = some u → w.cell? (ad.add j) = some u) (hp : 0 < m) (hbytes : n + m ≤ 140737488355328) (hB : B ≤ w.heap.size) :
    ∃ v' w', (Builtin.append_ #[82, 82] ty #[v, .slice (some ad) m c]).run Tryz.prog w = .ok v' w' ∧ Own w' B v' (n + m) (xs ++ bs) ∧ w.grownBy w' v.ownBlock ∧ Own w' B v n xs ∧ (v'.ownBlock = v.ownBlock ∨ v'.ownBlock = some w.heap.size) := by
  obtain ⟨i0, hi, hz0, hz1, hz2⟩ := info_parts info_byte
  have hl : (bv bs).length = m * 1 := by simp [bv, hm]
  obtain ⟨v', w', hr, h2, h3, _⟩ := run_append_own (P := Tryz.prog) w B 82 ty 5 i0 (.int .u8 0) 1 1 und_bytes hi hz0 hz1 hz2 rfl (by decide) v n (bv xs) hown.2 ad m c (bv bs) hl hnews (bv_oneCell bs) (by unfold maxLen; omega) (by omega) hB
  have o2 : Own w' B v' (n + m) (xs ++ bs) := ⟨by rw [hown.1, hm]; simp, by simpa [bv] using h2⟩
  refine ⟨v', w', hr, o2, h3, ?_⟩
  rcases hown.2.2 with ⟨rfl, h0⟩ | ⟨g, cap, cur, rfl, hg1, hg2, hg3, hg4, hg5, hg6⟩
  · have hx : xs = [] := List.eq_nil_of_length_eq_zero (by rw [← hown.1]; exact h0)
    subst hx h0
    have hr2 := run_append_nil (P := Tryz.prog) w 82 ty 5 i0 (.int .u8 0) und_bytes hi hz0 ad m c (bv bs) (by rw [hz1]; exact hl) hnews hp (by omega) (by rw [hz2]; omega)
    rw [hr] at hr2
    injection hr2 with e1 e2
    subst e1
    exact ⟨ownNil _ _, .inr rfl⟩
  · by_cases hroom : n + m ≤ cap
    · obtain ⟨w2, hr2, k2, _⟩ := run_append_own_spare (P := Tryz.prog) w B 82 ty 5 i0 1 und_bytes hi hz1 g n cap (bv xs) hown.2 ad m c (bv bs) hl hnews (bv_oneCell bs) hroom
      rw [hr] at hr2
      injection hr2 with e1 e2
      subst e1 e2
      refine ⟨⟨hown.1, hown.2.1, ?_⟩, .inl rfl⟩
      rcases o2.2.2 with ⟨h5, _⟩ | ⟨g2, cap2, cur2, h5, h6, h7, h8, h9, h10, h11⟩
      · cases h5
      · simp only [Value.slice.injEq, Option.some.injEq] at h5
        obtain ⟨e3, _, rfl⟩ := h5
        obtain rfl : g = g2 := by injection e3
        refine .inr ⟨g, cap, cur2, rfl, h6, h7, hg3, hg4, h10, ?_⟩
        have e4 : cur2.toList.take (n * 1) = (cur2.toList.take ((n + m) * 1)).take (n * 1) := by
          rw [List.take_take, Nat.min_eq_left (by omega)]
        rw [e4, h11, bv_append, List.take_append_of_le_length (by rw [bv_length, ← hown.1]; omega), List.take_of_length_le (by rw [bv_length, ← hown.1]; omega)]
    · have holds : ∀ j u, (bv xs)[j]? = some u → w.cell? ((⟨g, 0, none⟩ : Addr).add j) = some u := hown.2.cells (g := g) rfl
      have hr2 := run_append_grow (P := Tryz.prog) w 82 ty 5 i0 (.int .u8 0) und_bytes hi hz0 ⟨g, 0, none⟩ n cap (bv xs) (by rw [hz1, bv_length, ← hown.1]; omega) holds ad m c (bv bs) (by rw [hz1]; exact hl) hnews (by omega) (by omega) (by rw [hz2]; exact growslice_fits (by omega) (by omega))
      rw [hr] at hr2
      injection hr2 with e1 e2
      subst e1
      refine ⟨?_, .inr rfl⟩
      refine ⟨hown.1, hown.2.1, .inr ⟨g, cap, cur, rfl, hg1, ?_, hg3, hg4, hg5, hg6⟩⟩
      rw [e2, heap_alloc_old w.drew _ (Array.getElem?_eq_some_iff.1 hg2).1]
      exact hg2
theorem wpList_append_mark3 {w : World} {ops : Array Oper} {rest : List Oper} {o : Oper} {a : Act} {Q : Exit → Act → World → Prop} (hgd : o.guard = none) (s x : Operand)
    (ho : o.op = .call { callee := .builtin .append, args := #[s, x], argTypes := #[82, 82] })
    (B n cp m : Nat) (ap : Option Addr) (xs : List Nat) (hs : a.eval s = .slice ap n cp) (hx : a.eval x = .slice (some ⟨w.heap.size, 0, none⟩) 1 1) (hown : Own w B (.slice ap n cp) n xs) (hl : n + 1 ≤ 140737488355328) (hB : B ≤ w.heap.size)
    (h : ∀ a' c' w', Own w' B (.slice a' (n + 1) c') (n + 1) (xs ++ [m]) → w.grownBy w' (Value.slice ap n cp).ownBlock → Own w' B (.slice ap n cp) n xs → (∀ g, (Value.slice a' (n + 1) c').ownBlock = some g → (Value.slice ap n cp).ownBlock = some g ∨ w.heap.size ≤ g) → wpList Tryz.prog ops Q rest (a.put o.dst (.slice a' (n + 1) c')) w') : wpList Tryz.prog ops Q (o :: rest) a (w.alloc (.cells #[.int .u8 (m : Int)] 5)) := by
  have hb : Below w.heap.size w (w.alloc (.cells #[.int .u8 (m : Int)] 5)) := (Below.refl _ _).alloc (Nat.le_refl _) _
  have hnews : ∀ j u, (bv [m])[j]? = some u → (w.alloc (.cells #[.int .u8 (m : Int)] 5)).cell? ((⟨w.heap.size, 0, none⟩ : Addr).add j) = some u := cell_one_new w _ _
  obtain ⟨v', w', hr, h1, h2, h3, h4⟩ := appendKeep (c := 1) o.type (hown.later hb) ⟨w.heap.size, 0, none⟩ (m := 1) (bs := [m]) rfl hnews (by decide) hl (by simp; omega)
  obtain ⟨a', c', rfl⟩ := own_form h1.2
  refine wpList_plain hgd fun K hK => ?_
  unfold Oper.wp execOp
  simp only [ho, resolve, invoke, builtin, Sem.run_bind, Sem.run_pure, Result.andThen_ok, List.map_toArray, List.map_cons, List.map_nil, hs, hx, hr]
  refine hK _ _ (h a' c' w' h1 ((World.grownBy_alloc w _ _).trans h2) h3 (fun g hg => ?_))
  rcases h4 with h4 | h4
  · exact .inl (h4 ▸ hg)
  · rw [h4] at hg
    simp at hg
    omega


end Go.Proofs.YthhkpkfpifllkaaGreat

namespace Go.Proofs.YthhkpkfpifllkaaGreat
open Go.RowKit
set_option linter.unusedVariables false

set_option maxRecDepth 100000 in
set_option maxHeartbeats 2000000 in
theorem grown_any {w : World} {B n cv m : Nat} {av : Option Addr} {L : List Nat} (ho : Own w B (.slice av n cv) n L) (hB : B ≤ w.heap.size) (hn : n ≤ 3000000) (hm : m < 256) :
    Calls Tryz.prog 76 #[.slice av n cv, .int .u8 (m : Int)] w fun e w' => ∃ a' c', e = .returned (.slice a' (n + (n + 70)) c') ∧ Own w' B (.slice a' (n + (n + 70)) c') (n + (n + 70)) (L ++ List.replicate (n + 70) m) ∧ Own w' B (.slice av n cv) n L ∧ w.grownBy w' (Value.slice av n cv).ownBlock ∧ (∀ g, (Value.slice a' (n + (n + 70)) c').ownBlock = some g → (Value.slice av n cv).ownBlock = some g ∨ w.heap.size ≤ g) := by
  have HO : Hid (Own w B (.slice av n cv) n L) := ho
  clear ho
  go_enter Tryz.func76, Tryz.ntmps76
  go_wp2
  go_loopw [5, 6] (fun s i wr => ∃ (k : Nat) (a : Option Addr) (c : Nat), k ≤ n + 70 ∧ i = .int .i64 ((k : Nat) : Int) ∧ s = .slice a (n + k) c ∧ Own wr B (.slice a (n + k) c) (n + k) (L ++ List.replicate k m) ∧ Own wr B (.slice av n cv) n L ∧ w.grownBy wr (Value.slice av n cv).ownBlock ∧ (∀ g, (Value.slice a (n + k) c).ownBlock = some g → (Value.slice av n cv).ownBlock = some g ∨ w.heap.size ≤ g)) (fun _ i _ => n + 70 - (intOf i).toNat)
  case atStart => exact ⟨0, av, cv, Nat.zero_le _, rfl, rfl, by simpa using HO.out, HO.out, ⟨rfl, rfl, rfl, Nat.le_refl _, fun _ _ _ => rfl⟩, fun g hg => .inl hg⟩
  case round =>
    obtain ⟨k, a, c, hk, rfl, rfl, own, o0, gr, loc⟩ := hrel
    have hwr : IntKind.i64.wrap ((n : Int) + 70) = ((n + 70 : Nat) : Int) := by rw [IntWalk.i64_in _ ⟨by omega, by omega⟩]; omega
    have H1 : Hid (Own wr B (.slice a (n + k) c) (n + k) (L ++ List.replicate k m) ∧ Own wr B (.slice av n cv) n L ∧ w.grownBy wr (Value.slice av n cv).ownBlock ∧ (∀ g, (Value.slice a (n + k) c).ownBlock = some g → (Value.slice av n cv).ownBlock = some g ∨ w.heap.size ≤ g)) := ⟨own, o0, gr, loc⟩
    have hB2 : B ≤ wr.heap.size := Nat.le_trans hB gr.size
    clear own o0 gr loc
    by_cases hlt : k < n + 70
    · have hlt2 : (k : Int) < ((n + 70 : Nat) : Int) := by omega
      have hlt3 : (k : Int) < (n : Int) + 70 := by omega
      go_wp2_with (at_builtin; refine wpList_append_mark3 rfl _ _ rfl B (n + k) c m a _ rfl rfl H1.out.1 (by omega) hB2 ?_; intro a2 c2 w2 own2 gr2 own3 loc2; have H2 : Hid (Own w2 B (.slice a2 (n + k + 1) c2) (n + k + 1) (L ++ List.replicate k m ++ [m]) ∧ wr.grownBy w2 (Value.slice a (n + k) c).ownBlock ∧ Own w2 B (.slice a (n + k) c) (n + k) (L ++ List.replicate k m) ∧ (∀ g, (Value.slice a2 (n + k + 1) c2).ownBlock = some g → (Value.slice a (n + k) c).ownBlock = some g ∨ wr.heap.size ≤ g)) := ⟨own2, gr2, own3, loc2⟩; clear own2 gr2 own3 loc2)
      go_roundw
      case rel =>
        obtain ⟨own, o0, gr, loc⟩ := H1.out
        obtain ⟨own2, gr2, own3, loc2⟩ := H2.out
        refine ⟨k + 1, a2, c2, by omega, by go_num, by rw [Nat.add_assoc], ?_, ownPre own own3 gr2 o0 (by omega), gr.andThen gr2 (fun j e => ?_), fun g hg => ?_⟩
        · rw [← Nat.add_assoc, List.replicate_succ', ← List.append_assoc]; exact own2
        · rcases loc j e with h | h
          · exact .inr h
          · exact .inl h
        · rw [← Nat.add_assoc] at hg
          rcases loc2 g hg with h | h
          · exact loc g h
          · exact .inr (Nat.le_trans gr.size h)
      case measure => simp [intOf]; omega
    · obtain rfl : k = n + 70 := by omega
      have hge : ¬ (((n + 70 : Nat) : Int) < ((n + 70 : Nat) : Int)) := by omega
      have hge3 : ¬ (((n + 70 : Nat) : Int) < (n : Int) + 70) := by omega
      go_wp2
      go_ret
      exact ⟨a, c, rfl, H1.out.1, H1.out.2.1, H1.out.2.2.1, H1.out.2.2.2⟩
end Go.Proofs.YthhkpkfpifllkaaGreat

namespace Go.Proofs.YthhkpkfpifllkaaGreat
open Go.RowKit
set_option linter.unusedVariables false

section
variable {fs : List (Int × Int)} {clock : Int}
def Gd : Bool → List Vd → Prop
  | true, _ => True
  | false, [] => True
  | false, v :: us => (v.rank = 1 ∧ Gd true us) ∨ (v.fate ≠ 5 ∧ v.rank ≠ 1 ∧ Gd false us)
theorem show_carry (tm n : Int) (us : List Vd) : ∀ (s0 : Int) (out : List En), Gd false us → (us.foldl (showStep tm n) (s0, out)).2 = out ++ (us.foldl (showStep tm n) (0, [])).2 := by
  have same : ∀ (us : List Vd) (s : Int) (out : List En), us.foldl (showStep tm n) (s, out) = ((us.foldl (showStep tm n) (s, [])).1, out ++ (us.foldl (showStep tm n) (s, [])).2) := by
    intro us
    induction us with
    | nil => intro s out; simp
    | cons v us ih =>
      intro s out
      simp only [List.foldl_cons]
      unfold showStep
      by_cases h : v.fate = 5 ∧ v.e.kind = 1 ∧ v.e.ts ≤ tm ∧ (if v.rank = 1 then 0 else s) ≠ n
      · simp only [if_pos h]
        have a := ih ((if v.rank = 1 then 0 else s) + 1) (out ++ [v.e])
        have b := ih ((if v.rank = 1 then 0 else s) + 1) ([] ++ [v.e])
        unfold showStep at a b
        rw [a, b]
        simp
      · simp only [if_neg h]
        have a := ih (if v.rank = 1 then 0 else s) out
        unfold showStep at a
        rw [a]
  induction us with
  | nil => intro s0 out _; simp
  | cons v us ih =>
    intro s0 out hg
    rcases hg with ⟨h1, -⟩ | ⟨h5, h1, hg⟩
    · have e : showStep tm n (s0, out) v = ((showStep tm n (0, []) v).1, out ++ (showStep tm n (0, []) v).2) := by
        unfold showStep
        simp only [if_pos h1]
        split <;> simp
      simp only [List.foldl_cons]
      rw [e, same us _ (out ++ _), same us _ (showStep tm n (0, []) v).2]
      simp
    · have e : ∀ s out, showStep tm n (s, out) v = (s, out) := fun s out => by
        unfold showStep
        simp [h5, h1]
      simp only [List.foldl_cons]
      rw [e, e]
      exact ih s0 out hg
theorem show_append (tm n : Int) (us ws : List Vd) (h : Gd false ws) : (showS tm n (us ++ ws)).2 = (showS tm n us).2 ++ (showS tm n ws).2 := by
  unfold showS
  rw [List.foldl_append]
  exact show_carry tm n ws _ _ h
def Qr (V : List Vd) (s : Sp) : Prop := Gd false V ∧ ((∃ v ∈ V, v.rank = 1) ∨ s.rank = 0)
end
end Go.Proofs.YthhkpkfpifllkaaGreat

namespace Go.Proofs.YthhkpkfpifllkaaGreat
open Go.RowKit
set_option linter.unusedVariables false

section
variable {fs : List (Int × Int)} {clock : Int} {k : Nat} {l m : List EntD} {s : Sp} {us : List Vd}
theorem step_last (s : Sp) (e : En) : (stepS fs clock s e).2.last = e := by
  unfold stepS
  repeat' split
  all_goals rfl
theorem Pushed.last (h : Pushed fs clock k l m s us) : (l = [] ∧ m = [] ∧ us = [] ∧ s = Sp.zero) ∨ (s.begun = true ∧ ∃ y z, m.getLast? = some y ∧ l.getLast? = some z ∧ y.dat = s.last ∧ z.dat = s.last) := by
  induction h with
  | nil => exact .inl ⟨rfl, rfl, rfl, rfl⟩
  | @twin l m s vs e y h hy he ih =>
    rcases ih with ⟨_, rfl, _⟩ | ⟨b, y', z', e1, e2, e3, e4⟩
    · cases hy
    · have ey : y = y' := Option.some.inj (hy.symm.trans e1)
      exact .inr ⟨b, y, e, hy, by simp, by rw [ey]; exact e3, by rw [← he, ey]; exact e3⟩
  | @step l m s vs e h ho hc ih => exact .inr ⟨step_begun s e.dat, e, e, by simp, by simp, (step_last s e.dat).symm, (step_last s e.dat).symm⟩
theorem last_le {m : List EntD} {y z : EntD} (hp : m.Pairwise fun x y => compareS x y ≤ 0) (hl : m.getLast? = some z) (hy : y ∈ m) : compareS y z ≤ 0 := by
  obtain ⟨ys, rfl⟩ : ∃ ys, m = ys ++ [z] := ⟨m.dropLast, by
    have hne : m ≠ [] := fun q => by rw [q] at hl; cases hl
    have := List.dropLast_concat_getLast hne
    rw [List.getLast?_eq_some_getLast hne] at hl
    cases hl
    exact this.symm⟩
  rcases List.mem_append.1 hy with q | q
  · exact (List.pairwise_append.1 hp).2.2 y q z List.mem_cons_self
  · rw [List.mem_singleton.1 q, compareS_self]; exact Int.le_refl _
theorem Pushed.push {s : SpD} {e : EntD} (h : Pushed fs clock k l m s.dat us) (hc : ∀ (i : Nat) y, i + 1 < l.length → l[i]? = some y → y.seq = e.seq → y.dat = e.dat) (hE : pushE k s e = 0) : ∃ m', Pushed fs clock k (l ++ [e]) m' (pushS k fs clock s e).2 (us ++ (pushS k fs clock s e).1) := by
  unfold pushS
  rw [if_neg (by rw [hE]; decide)]
  by_cases hb : s.begun = true ∧ sameS e s.last = true
  · rw [if_pos hb]
    rcases h.last with ⟨_, _, _, q⟩ | ⟨_, y, z, e1, e2, e3, e4⟩
    · have : s.dat.begun = false := by rw [q]; rfl
      have h1 : s.begun = false := this
      rw [h1] at hb
      exact absurd hb.1 (by decide)
    · exact ⟨m, .twin h e1 (e3.trans (sameS_dat hb.2).symm)⟩
  · rw [if_neg hb]
    have hck : check3S k e = 0 := by
      unfold pushE at hE
      by_cases q : check3S k e ≠ 0
      · rw [if_pos q] at hE; exact hE
      · exact Decidable.not_not.1 q
    refine ⟨m ++ [e], .step h ?_ hck⟩
    rcases h.last with ⟨_, q, _, _⟩ | ⟨b, y, z, e1, e2, e3, e4⟩
    · rw [q]; intro y hy; cases hy
    · have b' : s.begun = true := b
      unfold pushE at hE
      rw [if_neg (by rw [hck]; decide), if_pos b'] at hE
      have c1 : ¬ compareS e s.last < 0 := fun q => by rw [if_pos q] at hE; exact absurd hE (by decide)
      have c2 : ¬ sameS e s.last = true := fun q => hb ⟨b', q⟩
      rw [if_neg c1, if_neg c2] at hE
      have c3 : ¬ e.seq = s.last.seq := fun q => by rw [if_pos q] at hE; exact absurd hE (by decide)
      have sw := compareS_swap e s.last
      have sy : EntD.Same y s.last := EntD.dat_same.1 e3
      have cy : compareS y e ≤ 0 := by
        rw [compareS_same sy ⟨rfl, rfl, rfl, rfl, rfl, rfl, rfl⟩]
        omega
      obtain ⟨o1, o2, o3, o4⟩ := h.ord
      intro x hx
      have t1 := last_le o1 e1 hx
      have tr := compareS_tri x y e
      refine ⟨tr.1 ⟨t1, cy⟩, fun hq => ?_⟩
      obtain ⟨i, hi, hxi⟩ := List.getElem_of_mem (o3 x hx).2
      have hxi' : l[i]? = some x := by rw [← hxi]; exact List.getElem?_eq_getElem hi
      by_cases hlast : i + 1 < l.length
      · have hd := hc i x hlast hxi' hq
        have z0 : compareS x e = 0 := by
          rw [compareS_same (EntD.dat_same.1 hd) ⟨rfl, rfl, rfl, rfl, rfl, rfl, rfl⟩, compareS_self]
        have := (tr.2.2.1 ⟨t1, cy, z0⟩).2
        have sq := seq_of_zero this
        have : y.seq = s.last.seq := congrArg En.seq e3
        exact c3 (sq.symm.trans this)
      · have hi' : i = l.length - 1 := by omega
        rw [List.getLast?_eq_getElem?, ← hi', hxi'] at e2
        cases e2
        exact c3 (hq.symm.trans (congrArg En.seq e4))
theorem Pushed.few (h : Pushed fs clock k l m s us) : us.length ≤ l.length ∧ (us ++ (resolveS fs clock s 3).1).length = l.length ∧ s.rank ≤ us.length ∧ (s.waiting = true → s.begun = true) := by
  obtain ⟨h1, h2, h3⟩ := h.state
  obtain ⟨w1, w2, w3⟩ := walk_len (fs := fs) (clock := clock) (m.map EntD.dat)
  rw [← h1] at w1 w2 w3
  rw [List.length_map] at w1
  have r := resolve_len (fs := fs) (clock := clock) s 3
  have hml : m.length ≤ l.length := by
    clear h1 h2 h3 w1 w2 w3 r
    induction h with
    | nil => exact Nat.le_refl _
    | twin h hy he ih => simp only [List.length_append, List.length_cons, List.length_nil]; omega
    | step h ho hc ih => simp only [List.length_append, List.length_cons, List.length_nil]; omega
  refine ⟨by omega, by rw [List.length_append, r]; omega, ?_, w3⟩
  have := w2.2
  omega
def Sz (e : En) : Prop := ByE e ∧ e.row.length ≤ 256 ∧ e.qual.length ≤ 256 ∧ e.val.length ≤ 4096
theorem resolve_sz {s : Sp} {kd : Int} (h : s.waiting = true → Sz s.last) : (∀ v ∈ (resolveS fs clock s kd).1, Sz v.e) ∧ (resolveS fs clock s kd).2.last = s.last ∧ (resolveS fs clock s kd).2.waiting = false := by
  refine ⟨fun v hv => ?_, ?_, resolve_wl s kd⟩
  · unfold resolveS at hv
    split at hv
    · rename_i w
      rw [List.mem_singleton.1 hv]
      have : (decideS fs clock { s with waiting := false } { s.last with seq := s.seq, kind := kd }).1.e = { s.last with seq := s.seq, kind := kd } := by
        unfold decideS; repeat' split
        all_goals rfl
      rw [this]
      exact h w
    · cases hv
  · unfold resolveS decideS
    repeat' split
    all_goals rfl
theorem left_keep (s : Sp) (f c : Bool) : (leftS s f c).last = s.last ∧ (leftS s f c).waiting = s.waiting := by
  unfold leftS; cases f <;> cases c <;> exact ⟨rfl, rfl⟩
theorem enter_sz {s : Sp} {e : En} (h : s.waiting = true → Sz s.last) : (∀ v ∈ (enterS fs clock s e).1, Sz v.e) ∧ (enterS fs clock s e).2.last = s.last ∧ ((enterS fs clock s e).2.waiting = true → Sz s.last) := by
  unfold enterS
  split
  · exact ⟨(fun v hv => nomatch hv), rfl, h⟩
  · obtain ⟨r1, r2, r3⟩ := resolve_sz (fs := fs) (clock := clock) (kd := 3) h
    refine ⟨r1, (left_keep _ _ _).1.trans r2, fun z => ?_⟩
    have z' : (leftS (resolveS fs clock s 3).2 (sameFam s e) (sameCol s e)).waiting = true := z
    rw [(left_keep _ _ _).2, r3] at z'
    cases z'
theorem decide_e (s : Sp) (e : En) : (decideS fs clock s e).1.e = e := by
  unfold decideS; repeat' split
  all_goals rfl
theorem step_sz {s : Sp} {e : En} (h : s.waiting = true → Sz s.last) (he : Sz e) : (∀ v ∈ (stepS fs clock s e).1, Sz v.e) ∧ ((stepS fs clock s e).2.waiting = true → Sz (stepS fs clock s e).2.last) := by
  obtain ⟨r1, r2, r3⟩ := enter_sz (fs := fs) (clock := clock) (e := e) h
  refine ⟨fun v hv => ?_, fun _ => by rw [step_last]; exact he⟩
  unfold stepS at hv
  have st : (stretchS (enterS fs clock s e).2 e).1.e = e := by unfold stretchS; split <;> rfl
  split at hv
  · rcases List.mem_append.1 hv with q | q
    · exact r1 v q
    · rw [List.mem_singleton.1 q, st]; exact he
  · split at hv
    · split at hv
      · rcases List.mem_append.1 hv with q | q
        · exact r1 v q
        · rcases List.mem_append.1 q with q | q
          · exact (resolve_sz (fs := fs) (clock := clock) (kd := 2) (s := (enterS fs clock s e).2) (fun z => by rw [r2]; exact r3 z)).1 v q
          · rw [List.mem_singleton.1 q]; exact he
      · rcases List.mem_append.1 hv with q | q
        · exact r1 v q
        · rw [List.mem_singleton.1 q]; exact he
    · split at hv
      · exact r1 v hv
      · rcases List.mem_append.1 hv with q | q
        · exact r1 v q
        · rw [List.mem_singleton.1 q, decide_e]; exact he
theorem Pushed.sz (h : Pushed fs clock k l m s us) (hl : ∀ x ∈ l, Sz x.dat) : (∀ v ∈ us, Sz v.e) ∧ (∀ v ∈ (resolveS fs clock s 3).1, Sz v.e) := by
  have gen : (∀ v ∈ us, Sz v.e) ∧ (s.waiting = true → Sz s.last) := by
    induction h with
    | nil => exact ⟨(fun v hv => nomatch hv), (fun z => nomatch z)⟩
    | @twin l m s vs e y h hy he ih =>
      obtain ⟨i1, i2⟩ := ih (fun x hx => hl x (List.mem_append_left _ hx))
      refine ⟨fun v hv => ?_, i2⟩
      rcases List.mem_append.1 hv with q | q
      · exact i1 v q
      · rw [List.mem_singleton.1 q]; exact hl e (List.mem_append_right _ List.mem_cons_self)
    | @step l m s vs e h ho hc ih =>
      obtain ⟨i1, i2⟩ := ih (fun x hx => hl x (List.mem_append_left _ hx))
      obtain ⟨s1, s2⟩ := step_sz (fs := fs) (clock := clock) (e := e.dat) i2 (hl e (List.mem_append_right _ List.mem_cons_self))
      refine ⟨fun v hv => ?_, s2⟩
      rcases List.mem_append.1 hv with q | q
      · exact i1 v q
      · exact s1 v q
  exact ⟨gen.1, (resolve_sz gen.2).1⟩
end
structure Kd (fs : List (Int × Int)) (clock : Int) (k : Nat) (OO : List Vd → List En) (wa : List En → List En) : Prop where
  nil : OO [] = []
  pre : ∀ a b, ∃ c, OO (a ++ b) = OO a ++ c
  app : ∀ a b, Gd false b → OO (a ++ b) = OO a ++ OO b
  mem : ∀ vs, ∀ e ∈ OO vs, ∃ v ∈ vs, v.e = e
  len : ∀ vs, (OO vs).length ≤ vs.length
  all : ∀ {l m : List EntD} {s : Sp} {us : List Vd}, Pushed fs clock k l m s us → OO (us ++ (resolveS fs clock s 3).1) = wa (m.map EntD.dat)
theorem kd_filter (fs : List (Int × Int)) (clock : Int) (k : Nat) (major : Bool) (low : Int) : Kd fs clock k (outS major low) (fun m => leftL fs clock m major low) where
  nil := rfl
  pre := fun a b => ⟨_, out_append major low a b⟩
  app := fun a b _ => out_append major low a b
  mem := fun vs e he => by
    obtain ⟨v, hv, rfl⟩ := List.mem_map.1 he
    exact ⟨v, (List.mem_filter.1 hv).1, rfl⟩
  len := fun vs => by
    unfold outS
    rw [List.length_map]
    exact List.length_filter_le _ _
  all := fun h => by
    rw [(h.out major low).2]
    exact out_tld h.isOrd.ah h.isOrd.va major low
theorem show_kept (tm n : Int) (us : List Vd) (h : ∀ v ∈ us, v.fate = 1 → v.rank ≠ 1) : showS tm n us = showS tm n (us.filter kept) := by
  have gen : ∀ (us : List Vd) (a : Int × List En), (∀ v ∈ us, v.fate = 1 → v.rank ≠ 1) → us.foldl (showStep tm n) a = (us.filter kept).foldl (showStep tm n) a := by
    intro us
    induction us with
    | nil => intro a _; rfl
    | cons v us ih =>
      intro a hv
      by_cases f : v.fate = 1
      · have e1 : kept v = false := by simp [kept, f]
        have e2 : showStep tm n a v = a := by
          unfold showStep
          rw [if_neg (by rw [f]; intro q; exact absurd q.1 (by decide)), if_neg (hv v List.mem_cons_self f)]
        rw [List.filter_cons_of_neg (by rw [e1]; decide), List.foldl_cons, e2]
        exact ih a (fun v hm => hv v (List.mem_cons_of_mem _ hm))
      · have e1 : kept v = true := by simp [kept, f]
        rw [List.filter_cons_of_pos e1, List.foldl_cons, List.foldl_cons]
        exact ih _ (fun v hm => hv v (List.mem_cons_of_mem _ hm))
  exact gen us (0, []) h
theorem show_pre (tm n : Int) : ∀ (b : List Vd) (a : Int × List En), ∃ c, (b.foldl (showStep tm n) a).2 = a.2 ++ c
  | [], a => ⟨[], by simp⟩
  | v :: b, a => by
    obtain ⟨c, hc⟩ := show_pre tm n b (showStep tm n a v)
    rw [List.foldl_cons, hc]
    by_cases hq : v.fate = 5 ∧ v.e.kind = 1 ∧ v.e.ts ≤ tm ∧ (if v.rank = 1 then 0 else a.1) ≠ n
    · have e1 : (showStep tm n a v).2 = a.2 ++ [v.e] := by unfold showStep; rw [if_pos hq]
      exact ⟨[v.e] ++ c, by rw [e1, List.append_assoc]⟩
    · have e1 : (showStep tm n a v).2 = a.2 := by unfold showStep; rw [if_neg hq]
      exact ⟨c, by rw [e1]⟩
theorem show_mem (tm n : Int) : ∀ (b : List Vd) (a : Int × List En), ∀ e ∈ (b.foldl (showStep tm n) a).2, e ∈ a.2 ∨ ∃ v ∈ b, v.e = e
  | [], a, e, he => .inl he
  | v :: b, a, e, he => by
    rcases show_mem tm n b (showStep tm n a v) e he with q | ⟨u, hu, q⟩
    · by_cases hq : v.fate = 5 ∧ v.e.kind = 1 ∧ v.e.ts ≤ tm ∧ (if v.rank = 1 then 0 else a.1) ≠ n
      · have e1 : (showStep tm n a v).2 = a.2 ++ [v.e] := by unfold showStep; rw [if_pos hq]
        rw [e1] at q
        rcases List.mem_append.1 q with q | q
        · exact .inl q
        · exact .inr ⟨v, List.mem_cons_self, (List.mem_singleton.1 q).symm⟩
      · have e1 : (showStep tm n a v).2 = a.2 := by unfold showStep; rw [if_neg hq]
        rw [e1] at q
        exact .inl q
    · exact .inr ⟨u, List.mem_cons_of_mem _ hu, q⟩
section
variable {fs : List (Int × Int)} {clock : Int} {k : Nat} {l m : List EntD} {s : Sp} {us : List Vd}
theorem decide_f1 (s : Sp) (e : En) : (decideS fs clock s e).1.fate ≠ 1 := by
  unfold decideS; repeat' split
  all_goals (show (_ : Int) ≠ 1; simp)
theorem resolve_f1 (s : Sp) (kd : Int) : ∀ v ∈ (resolveS fs clock s kd).1, v.fate ≠ 1 := fun v hv => by
  unfold resolveS at hv
  split at hv
  · rw [List.mem_singleton.1 hv]; exact decide_f1 _ _
  · cases hv
theorem enter_f1 (s : Sp) (e : En) : ∀ v ∈ (enterS fs clock s e).1, v.fate ≠ 1 := fun v hv => by
  unfold enterS at hv
  split at hv
  · cases hv
  · exact resolve_f1 _ _ v hv
theorem step_f1 (s : Sp) (e : En) : ∀ v ∈ (stepS fs clock s e).1, v.fate = 1 → v.rank ≠ 1 := fun v hv hf => by
  unfold stepS at hv
  split at hv
  · rcases List.mem_append.1 hv with q | q
    · exact absurd hf (enter_f1 _ _ v q)
    · rw [List.mem_singleton.1 q] at hf
      unfold stretchS at hf
      split at hf
      · exact absurd (show (8 : Int) = 1 from hf) (by decide)
      · exact absurd (show (7 : Int) = 1 from hf) (by decide)
  · split at hv
    · split at hv
      · rcases List.mem_append.1 hv with q | q
        · exact absurd hf (enter_f1 _ _ v q)
        · rcases List.mem_append.1 q with q | q
          · exact absurd hf (resolve_f1 _ _ v q)
          · rw [List.mem_singleton.1 q]; exact (show (0 : Int) ≠ 1 by decide)
      · rcases List.mem_append.1 hv with q | q
        · exact absurd hf (enter_f1 _ _ v q)
        · rw [List.mem_singleton.1 q]; exact (show (0 : Int) ≠ 1 by decide)
    · split at hv
      · exact absurd hf (enter_f1 _ _ v hv)
      · rcases List.mem_append.1 hv with q | q
        · exact absurd hf (enter_f1 _ _ v q)
        · rw [List.mem_singleton.1 q] at hf; exact absurd hf (decide_f1 _ _)
theorem walk_f1 : ∀ (l : List En) (s : Sp), ∀ v ∈ (walkS fs clock s l).1, v.fate = 1 → v.rank ≠ 1
  | [], s, v, hv => by cases hv
  | e :: l, s, v, hv => by
    rcases List.mem_append.1 hv with q | q
    · exact step_f1 s e v q
    · exact walk_f1 l _ v q
theorem Pushed.f1 (h : Pushed fs clock k l m s us) : ∀ v ∈ us, v.fate = 1 → v.rank ≠ 1 := by
  induction h with
  | nil => intro v hv; cases hv
  | @twin l m s vs e y h hy he ih =>
    intro v hv
    rcases List.mem_append.1 hv with q | q
    · exact ih v q
    · rw [List.mem_singleton.1 q]; intro _; exact (show (0 : Int) ≠ 1 by decide)
  | @step l m s vs e h ho hc ih =>
    intro v hv
    rcases List.mem_append.1 hv with q | q
    · exact ih v q
    · exact step_f1 s e.dat v q
theorem Pushed.shown (h : Pushed fs clock k l m s us) (tm n : Int) : showS tm n (us ++ (resolveS fs clock s 3).1) = showS tm n (verdictsS fs clock (m.map EntD.dat)) := by
  obtain ⟨h1, h2, h3⟩ := h.state
  rw [show_kept tm n _ (fun v hv => ?_), show_kept tm n (verdictsS fs clock (m.map EntD.dat)) (fun v hv => ?_)]
  · unfold verdictsS
    rw [List.filter_append, List.filter_append, h2, ← h1]
  · unfold verdictsS at hv
    rcases List.mem_append.1 hv with q | q
    · exact walk_f1 _ _ v q
    · exact fun hf => absurd hf (resolve_f1 _ _ v q)
  · rcases List.mem_append.1 hv with q | q
    · exact h.f1 v q
    · exact fun hf => absurd hf (resolve_f1 _ _ v q)
end
theorem kd_reader {fs : List FamD} (hS : SchemaOk fs) (clock tm n : Int) (hn : 0 ≤ n) : Kd (mt fs) clock fs.length (fun vs => (showS tm n vs).2) (fun m => readR tm n (m.filter (visB (mt fs) clock m))) where
  nil := rfl
  pre := fun a b => by
    unfold showS
    rw [List.foldl_append]
    exact show_pre tm n b _
  app := fun a b h => show_append tm n a b h
  mem := fun vs e he => by
    rcases show_mem tm n vs _ e he with q | q
    · cases q
    · exact q
  len := fun vs => show_len tm n vs
  all := fun h => by
    rw [h.shown tm n]
    exact read_ref (h.isOrd.max hS) h.isOrd.ah h.isOrd.va hn
end Go.Proofs.YthhkpkfpifllkaaGreat

namespace Go.Proofs.YthhkpkfpifllkaaGreat
open Go.RowKit
set_option linter.unusedVariables false

section
variable {w w' : World} {N : Nat} {v : Value} {xs : List EntD} {O : Nat → Prop} {x y : EntD}
end
end Go.Proofs.YthhkpkfpifllkaaGreat

namespace Go.Proofs.YthhkpkfpifllkaaGreat
open Go.RowKit Go.Maps
set_option linter.unusedVariables false

theorem Rest.start {W : World} {wb g rb B : Nat} {a : Option Addr} {c : Nat} {fs : List FamD} {clock : Int} {T : World → (Nat → Prop) → List Vd → Prop} (hb : WBx W wb (.slice a fs.length c) clock (.func (.func g) #[.pointer (some ⟨rb, 0, none⟩)] #[]) spZ) (hf : OwnF W B (.slice a fs.length c) fs.length fs) (hB : B ≤ W.heap.size) (hl : fs.length ≤ 8) (t : T W (fun i => i = rb) []) (hne : wb ≠ rb) (hr : ∃ cs ty, W.heap[rb]? = some (.cells cs ty (0, 0)) ∧ ty ≠ 132) : Rest B wb g rb (.slice a fs.length c) fs clock T W spZ [] := by
  have k := Wk.start (T := T) hb hf hl t hne hr
  have nl : ∀ i, ¬ Lst spZ i := fun i z => by rcases z with z | z | z <;> cases z
  have far : ∀ k, (Value.slice a fs.length c).ownBlock = some k → k ≠ wb ∧ k ≠ rb ∧ ¬ Lst spZ k := fun k hk => by
    rcases hf.2.2 with ⟨h1, -⟩ | ⟨g, cap, cur, h1, -, h3, -⟩
    · rw [h1] at hk; cases hk
    · rw [h1] at hk
      cases hk
      refine ⟨fun z => ?_, fun z => ?_, nl _⟩
      · have := hb
        unfold WBx at this
        rw [← z, h3] at this
        simp at this
      · obtain ⟨cs, ty, k1, k2⟩ := hr
        rw [← z, h3] at k1
        simp at k1
        exact k2 k1.2.symm
  refine ⟨?_, ⟨a, c, rfl, hf⟩, far, hl⟩
  refine ⟨hb, fun Z hZ => fam_frame ⟨a, c, rfl, hf⟩ far hl Z hZ, t, ⟨⟨rfl, World.ownsRow_nil _ _ _ _⟩, ⟨rfl, World.ownsRow_nil _ _ _ _⟩, ⟨rfl, World.ownsRow_nil _ _ _ _⟩⟩, fun k hk => .inl hk, k.apart, k.apO, fun i hi => .inl hi, hB, ⟨hb.lt, hne, nl _⟩, k.rank, k.mask, k.bys, k.few, k.wait, rfl, rfl, rfl, Nat.le_refl _, fun i _ _ _ _ => rfl⟩
def FlBx (w : World) (q : Nat) (pf pr : Option Addr) (vi vo : Value) (la : EntD) (has : Bool) (c : Ct) : Prop := w.heap[q]? = some (.cells #[.pointer pf, .pointer pr, vi, vo, la.vr, .int .i64 la.fam, la.vq, .int .i64 la.ts, .int .i64 la.seq, .int .i64 la.kind, la.vv, .bool has, .int .i64 c.o, .int .i64 c.m, .int .i64 c.x, .int .i64 c.a, .int .i64 c.k] 155 (0, 0))
def entZ : EntD := ⟨.slice none 0 0, 0, .slice none 0 0, 0, 0, 0, .slice none 0 0, [], [], []⟩
def MadeP (w w' : World) (fs : List FamD) (clock : Int) (g : Nat) (p1 p2 : Nat → Option Addr) (T : Nat → Nat → World → (Nat → Prop) → List Vd → Prop) (r : Ending) : Prop := ∃ q fb wb a' c', r = .returned (.tuple #[.pointer (some ⟨q, 0, none⟩), .bool true]) ∧ w.heap.size ≤ q ∧ w.heap.size ≤ fb ∧ w.heap.size ≤ wb ∧ q ≠ fb ∧ q ≠ wb ∧ FlBx w' q (p1 fb) (p2 fb) (.slice none 0 0) (.slice none 0 0) entZ false ⟨0, 0, 0, 0, 0⟩ ∧ Rest w.heap.size wb g fb (.slice a' fs.length c') fs clock (T fb wb) w' spZ []


end Go.Proofs.YthhkpkfpifllkaaGreat

namespace Go.Proofs.YthhkpkfpifllkaaGreat
open Go.RowKit Go.Maps
set_option linter.unusedVariables false

theorem put_ne {A : Act} {d x : Nat} {v u : Value} (h : x ≠ d) (k : A.tmps[x]?.getD undef = u) : (A.put (some d) v).tmps[x]?.getD undef = u := by
  show (A.tmps.setIfInBounds d v)[x]?.getD undef = u
  rw [Array.getElem?_setIfInBounds_ne (fun z => h z.symm)]
  exact k
theorem put_eq {A : Act} {d n : Nat} {v : Value} (hs : A.tmps.size = n) (h : d < n) : (A.put (some d) v).tmps[d]?.getD undef = v := by
  show (A.tmps.setIfInBounds d v)[d]?.getD undef = v
  rw [Array.getElem?_setIfInBounds_self_of_lt (by omega)]
  rfl
theorem put_sz {A : Act} {d n : Nat} {v : Value} (hs : A.tmps.size = n) : (A.put (some d) v).tmps.size = n := by
  show (A.tmps.setIfInBounds d v).size = n
  rw [Array.size_setIfInBounds]
  exact hs
theorem ev_tmp {A : Act} {x : Nat} {v : Value} (h : A.tmps[x]?.getD undef = v) : A.eval (.tmp x) = v := by simpa [Act.eval] using h
theorem anyE_gen {P : Program} {md : Region.Mode} {ops : Array Oper} {Q : Exit → Act → World → Prop} {S : World → Prop} {E : Nat → Bool} {n : Nat} {l : Array Bool} {a : Act} {w : World} (h : ∀ A0 : Act, A0 = a → AnyE P md ops Q S E n l A0 w) : AnyE P md ops Q S E n l a w := h a rfl
set_option maxRecDepth 100000 in
theorem op_move {a : Act} {w : World} {x : Nat} {v : Value} {d : Option Nat} {ty : TypeId} {ps : String} {af : Array Edge} (hx : a.tmps[x]?.getD undef = v) :
    (execOp a.eval { dst := d, op := Op.move (Operand.tmp x), type := ty, pos := ps, after := af, guard := none }).run Tryz.prog w = .ok (.value v) w := by
  go_simp
set_option maxRecDepth 100000 in
theorem op_nil {a : Act} {w : World} {x g : Nat} {d : Option Nat} {ps : String} {af : Array Edge} (hx : a.tmps[x]?.getD undef = .pointer (some ⟨g, 0, none⟩)) :
    (execOp a.eval { dst := d, op := Op.nilCheck (Operand.tmp x), type := 0, pos := ps, after := af, guard := none }).run Tryz.prog w = .ok (.value (.pointer (some ⟨g, 0, none⟩))) w := by
  go_simp
set_option maxRecDepth 100000 in
theorem wp_nil0 {a : Act} {w : World} {K : Act → World → Prop} {Q : Exit → Act → World → Prop} {x g : Nat} {d : Option Nat} {ps : String} {af : Array Edge} (hx : a.tmps[x]?.getD undef = .pointer (some ⟨g, 0, none⟩)) (hk : K (a.put d (.pointer (some ⟨g, 0, none⟩))) w) :
    Oper.wp Tryz.prog { dst := d, op := Op.nilCheck (Operand.tmp x), type := 0, pos := ps, after := af, guard := none } a w K Q := by
  go_simp
  exact hk
theorem row_formW {w : World} {B n : Nat} {e : TypeId} {v : Value} {xs : List Value} (h : w.ownsRow B e 1 v n xs) : ∃ a c, v = .slice a n c := by
  rcases h.2 with ⟨rfl, h2⟩ | ⟨g, cap, cur, rfl, _⟩
  · exact ⟨none, 0, by rw [h2]⟩
  · exact ⟨_, _, rfl⟩
def endE : EntD := ⟨.slice none 0 0, -9, .slice none 0 0, 0, 0, 0, .slice none 0 0, [], [], []⟩
end Go.Proofs.YthhkpkfpifllkaaGreat

namespace Go.Proofs.YthhkpkfpifllkaaGreat
open Go.RowKit Go.Maps
set_option linter.unusedVariables false

structure Rn (B : Nat) (w : World) (g : Nat) (l : List EntD) (t : Nat) (ys : List EntD) (us : List Value) (vL vW u1 u2 u3 : Value) : Prop where
  box : RBx w g vL vW
  gB : B ≤ g
  rL : w.ownsRow B 84 7 vL ys.length (evals ys)
  rW : w.ownsRow B 82 1 vW (us.length + 3) (us ++ [u1, u2, u3])
  ul : us.length = 3 * t
  el : ∀ i, i < t → ∃ x y u1 u2 u3, l[i]? = some x ∧ ys[i]? = some y ∧ us[3 * i]? = some u1 ∧ us[3 * i + 1]? = some u2 ∧ us[3 * i + 2]? = some u3 ∧ Re w B x y u1 u2 u3
  ap : (us ++ [u1, u2, u3]).Pairwise Apt
end Go.Proofs.YthhkpkfpifllkaaGreat
