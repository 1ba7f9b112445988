import Derived.Test.YthhkpkfpifllkaaK18
namespace Go.Proofs.Ythhkpkfpifllkaa
open Go.RowKit Go.Maps
set_option linter.unusedVariables false

set_option maxRecDepth 100000 in
theorem wpl_append_rd {w : World} {ops : Array Oper} {rest : List Oper} {o : Oper} {a : Act} {Q : Exit → Act → World → Prop} (hgd : o.guard = none) (s x : Operand)
    (ho : o.op = .call { callee := .builtin .append, args := #[s, x], argTypes := #[25, 25] })
    (B : Nat) (v : Value) (xs : List EntD) (hs : a.eval s = v) (hown : w.ownsRow B 45 7 v xs.length (evals xs))
    (ad : Option Addr) (m cap : Nat) (ys : List EntD) (hx : a.eval x = .slice ad m cap) (hm : m = ys.length) (hu : RdL3 w ad cap ys) (hnn : ad = none → cap = 0) (hone : ∀ y ∈ ys, ∀ u ∈ y.cells.toList, u.oneCell' = true) (hn : (xs.length + ys.length) * 104 ≤ 140737488355328) (hB : B ≤ w.heap.size)
    (h : ∀ a' n' c' w', n' = (xs ++ ys).length → w'.ownsRow B 45 7 (.slice a' n' c') (xs ++ ys).length (evals (xs ++ ys)) → w.grownBy w' v.ownBlock → wpList Try.prog ops Q rest (a.put o.dst (.slice a' n' c')) w') : wpList Try.prog ops Q (o :: rest) a w := by
  obtain ⟨i0, hi, hz0, hz1, hz2⟩ := info_parts info_ent3
  subst hm
  cases ad with
  | none =>
    have hz : ys = [] := by
      have := hu.cap.1
      rw [hnn rfl] at this
      exact List.eq_nil_of_length_eq_zero (by omega)
    subst hz
    obtain rfl := hnn rfl
    obtain ⟨a', c', rfl⟩ := rows_form3 hown
    refine wpList_append_own_none hgd s x 25 ho B 45 i0 7 und_ents3 hi _ _ _ hs hown (by simpa using hx) ?_
    exact h _ _ _ _ (by simp) (by simpa using hown) ⟨rfl, rfl, rfl, Nat.le_refl _, fun _ _ _ => rfl⟩
  | some ad =>
    refine wpList_append_own _ hgd s x 25 ho B 45 i0 _ 7 104 und_ents3 hi hz0 hz1 hz2 rfl (by decide) _ _ _ hs hown ad ys.length cap (evals ys) hx (evals_len ys) (fun j u hj => ?_) (fun u hu => ?_) (by unfold maxLen; omega) (by omega) hB ?_
    · obtain ⟨y, e1, e2⟩ := evals_get3 hj
      rcases hu.at_ with h0 | ⟨b, off, eb, hc⟩
      · rw [h0] at e1; simp at e1
      · cases eb
        have e : (⟨b, off, none⟩ : Addr).add j = ⟨b, off + j, none⟩ := by unfold Addr.add; split <;> simp_all
        rw [e]
        have := hc _ y e1 _ _ e2
        rwa [show off + j / 7 * 7 + j % 7 = off + j from by omega] at this
    · obtain ⟨j, hj⟩ := List.getElem?_of_mem hu
      obtain ⟨y, e1, e2⟩ := evals_get3 hj
      exact hone y (List.mem_of_getElem? e1) u (List.mem_of_getElem? e2)
    · intro v' w' k1 k2 k3
      rw [← evals_app3, ← List.length_append] at k1
      obtain ⟨a', c', rfl⟩ := rows_form3 k1
      exact h _ _ _ _ rfl k1 k2
structure Od (W wr : World) (l : List EntD) (t : Nat) (zs : List EntD) (v : Value) : Prop where
  row : wr.ownsRow W.heap.size 45 7 v zs.length (evals zs)
  ents : ∀ x ∈ zs, O3 wr W.heap.size x
  below : Below W.heap.size W wr
  srt : zs.Pairwise fun x y => compareS x y < 0
  mem : ∀ d, d ∈ zs.map EntD.dat ↔ d ∈ (l.take t).map EntD.dat
  by_ : ∀ x ∈ zs, ByE x.dat
theorem Od.later {W wr wr' : World} {l zs : List EntD} {t : Nat} {v : Value} (h : Od W wr l t zs v) (b : Below wr.heap.size wr wr') : Od W wr' l t zs v :=
  ⟨row_same h.row (fun g hg => b.block g (h.row.lt g hg).2), fun x hx => (h.ents x hx).later b, h.below.trans (b.mono h.below.size), h.srt, h.mem, h.by_⟩
theorem Od.rd {W wr : World} {l zs : List EntD} {t : Nat} {v : Value} (h : Od W wr l t zs v) : ∃ a c, v = .slice a zs.length c ∧ (a = none → c = 0) ∧ (∀ b, a = some b → ∃ g, b = ⟨g, 0, none⟩ ∧ W.heap.size ≤ g ∧ g < wr.heap.size) ∧ RdL3 wr a c zs := by
  have hok : ∀ x ∈ zs, EntD.Ok wr x := fun x hx => (h.ents x hx).okB (h.by_ x hx)
  obtain ⟨a, c, e, hr⟩ := row_rdl h.row hok
  refine ⟨a, c, e, fun z => ?_, fun b z => ?_, hr⟩
  · rcases h.row.2 with ⟨h1, _⟩ | ⟨g, cap, cur, h1, _⟩
    · rw [e] at h1; simp only [Value.slice.injEq] at h1; exact h1.2.2
    · rw [e, z] at h1; simp at h1
  · rcases h.row.2 with ⟨h1, _⟩ | ⟨g, cap, cur, h1, h2, h3, _⟩
    · rw [e, z] at h1; simp at h1
    · rw [e, z] at h1
      simp only [Value.slice.injEq, Option.some.injEq] at h1
      exact ⟨g, h1.1, h2, (Array.getElem?_eq_some_iff.1 h3).1⟩
theorem ins_srt {zs : List EntD} {x x' : EntD} {u : Nat} (hd : x'.dat = x.dat) (hs : zs.Pairwise fun x y => compareS x y < 0) (h1 : ∀ y ∈ zs.take u, compareS y x < 0) (h2 : ∀ y, zs[u]? = some y → 0 < compareS y x) : (zs.take u ++ [x'] ++ zs.drop u).Pairwise fun x y => compareS x y < 0 := by
  have cx : ∀ y, compareS y x' = compareS y x := fun y => compareS_same (EntD.dat_same.1 rfl) (EntD.dat_same.1 hd)
  have xy : ∀ y ∈ zs.drop u, compareS x' y < 0 := fun y hy => by
    have sw := compareS_swap y x'
    rw [cx] at sw
    cases hz : zs[u]? with
    | none =>
      have := List.getElem?_eq_none_iff.1 hz
      rw [List.drop_eq_nil_of_le this] at hy
      cases hy
    | some z =>
      have hzx := h2 z hz
      have e : zs.drop u = z :: zs.drop (u + 1) := by
        have h9 := List.getElem?_eq_some_iff.1 hz
        rw [List.drop_eq_getElem_cons h9.1, h9.2]
      have sz := compareS_swap z x'
      rw [cx] at sz
      rw [e] at hy
      rcases List.mem_cons.1 hy with q | q
      · rw [q]; omega
      · have hp := hs.sublist (List.drop_sublist u zs)
        rw [e] at hp
        have := (List.pairwise_cons.1 hp).1 y q
        exact cmp_lt_trans (by omega) this
  rw [List.append_assoc, List.pairwise_append]
  refine ⟨hs.sublist (List.take_sublist _ _), ?_, fun y hy z hz => ?_⟩
  · rw [List.singleton_append, List.pairwise_cons]
    exact ⟨xy, hs.sublist (List.drop_sublist _ _)⟩
  · rw [List.singleton_append] at hz
    rcases List.mem_cons.1 hz with q | q
    · rw [q, cx]; exact h1 y hy
    · have := h1 y hy
      rw [← cx] at this
      exact cmp_lt_trans this (xy z q)
theorem ins_mem {zs : List EntD} {x' : EntD} {u : Nat} (d : En) : d ∈ (zs.take u ++ [x'] ++ zs.drop u).map EntD.dat ↔ d ∈ zs.map EntD.dat ∨ d = x'.dat := by
  rw [List.map_append, List.map_append, List.mem_append, List.mem_append]
  conv => rhs; rw [← List.take_append_drop u zs, List.map_append, List.mem_append]
  simp only [List.map_cons, List.map_nil, List.mem_singleton]
  constructor
  · rintro ((a | a) | a)
    · exact .inl (.inl a)
    · exact .inr a
    · exact .inl (.inr a)
  · rintro ((a | a) | a)
    · exact .inl (.inl a)
    · exact .inr a
    · exact .inl (.inr a)
theorem RdL3.dropN {w : World} {g cap : Nat} {xs : List EntD} (h : RdL3 w (some ⟨g, 0, none⟩) cap xs) (u : Nat) : RdL3 w (some ⟨g, u * 7, none⟩) (cap - u) (xs.drop u) := by
  refine ⟨⟨by rw [List.length_drop]; have := h.cap.1; omega, by have := h.cap.2; omega⟩, .inr ⟨g, u * 7, rfl, fun i x hi j v hj => ?_⟩, fun x hx => h.ok x (List.mem_of_mem_drop hx)⟩
  rw [List.getElem?_drop] at hi
  have := h.cells (Below.refl _ _) hi j v hj
  rwa [show 0 + (u + i) * 7 + j = u * 7 + i * 7 + j from by omega] at this
theorem seq_of_cmp {x y : EntD} (h : compareS x y = 0) : x.seq = y.seq := by
  by_cases e : x.seq = y.seq
  · exact e
  · have a := ah_of (x := x) (y := y) (by omega) e
    have s := compareS_swap x y
    have b := ah_of (x := y) (y := x) (by omega) (fun z => e z.symm)
    exact (ah_asymm a b).elim
end Go.Proofs.Ythhkpkfpifllkaa

namespace Go.Proofs.Ythhkpkfpifllkaa
open Go.RowKit Go.Maps
set_option linter.unusedVariables false

theorem cmp_one {x y : EntD} (h : x.dat = y.dat) : compareS x y = 0 := (compareS_same (EntD.dat_same.1 h) (EntD.dat_same.1 rfl)).trans (compareS_self y)
theorem Od.ord {W W' : World} {l zs : List EntD} {v : Value} {k : Nat} (h : Od W W' l l.length zs v) (hc : inOrderE (check3S k) l = 0) : IsOrd k (l.map EntD.dat) (zs.map EntD.dat) := by
  obtain ⟨hall, xs, hx⟩ := inOrder_ok hc
  have hO : OneS l := (oneS_once l).2 (by rw [hx]; simp)
  have mem : ∀ d, d ∈ zs.map EntD.dat ↔ d ∈ l.map EntD.dat := fun d => by rw [h.mem, List.take_length]
  have dat : ∀ y ∈ zs, ∃ x ∈ l, x.dat = y.dat := fun y hy => by
    obtain ⟨x, hx, e⟩ := List.mem_map.1 ((mem _).1 (List.mem_map_of_mem hy))
    exact ⟨x, hx, e⟩
  have hck : ∀ y ∈ zs, check3S k y = 0 := fun y hy => by
    obtain ⟨x, hx, e⟩ := dat y hy
    have := hall x hx
    rw [check_dat] at this ⊢
    rw [← e]
    exact this
  have hne : zs.Pairwise fun a b => compareS a b < 0 ∧ a.seq ≠ b.seq := h.srt.imp_of_mem fun {a b} ha hb q => ⟨q, fun z => by
    obtain ⟨x, hx, e⟩ := dat a ha
    obtain ⟨y, hy, f⟩ := dat b hb
    have xs : x.seq = a.seq := congrArg En.seq e
    have ys : y.seq = b.seq := congrArg En.seq f
    have := hO x hx y hy (by rw [xs, z, ys])
    rw [e, f] at this
    have := cmp_one this
    omega⟩
  refine ⟨?_, ?_, fun e he => ?_, fun e he => ?_, mem⟩
  · rw [List.pairwise_map]
    exact hne.imp fun q => ah_of (by omega) q.2
  · rw [List.pairwise_map]
    exact hne.imp fun q => q.2
  · obtain ⟨y, hy, rfl⟩ := List.mem_map.1 he
    exact va_of_check (hck y hy)
  · obtain ⟨y, hy, rfl⟩ := List.mem_map.1 he
    exact hck y hy
end Go.Proofs.Ythhkpkfpifllkaa

namespace Go.Proofs.Ythhkpkfpifllkaa
open Go.RowKit Go.Maps
set_option linter.unusedVariables false

structure Vw (W wr : World) (zs : List EntD) (v : Value) (p : List En) : Prop where
  row : wr.ownsRow W.heap.size 45 7 v zs.length (evals zs)
  ents : ∀ x ∈ zs, O3 wr W.heap.size x
  below : Below W.heap.size W wr
  dat : zs.map EntD.dat = p
  by_ : ∀ x ∈ zs, ByE x.dat
theorem Vw.later {W wr wr' : World} {zs : List EntD} {v : Value} {p : List En} (h : Vw W wr zs v p) (b : Below wr.heap.size wr wr') : Vw W wr' zs v p :=
  ⟨row_same h.row (fun g hg => b.block g (h.row.lt g hg).2), fun x hx => (h.ents x hx).later b, h.below.trans (b.mono h.below.size), h.dat, h.by_⟩
theorem Vw.form {W wr : World} {zs : List EntD} {v : Value} {p : List En} (h : Vw W wr zs v p) : ∃ a c, v = .slice a zs.length c := by
  obtain ⟨a, c, e, -⟩ := row_rdl h.row (fun x hx => (h.ents x hx).okB (h.by_ x hx))
  exact ⟨a, c, e⟩
end Go.Proofs.Ythhkpkfpifllkaa

namespace Go.Proofs.Ythhkpkfpifllkaa
open Go.RowKit Go.Maps
set_option linter.unusedVariables false
def askE (C : Nat) (fs : List FamD) (clock low t n : Int) (l : List EntD) : Int := if C ≠ 0 then (C : Int) else if (badT clock || badT low || badT t || decide (n < 1) || decide (16 < n)) = true then 32 else inOrderE (check3S fs.length) l
end Go.Proofs.Ythhkpkfpifllkaa

namespace Go.Proofs.Ythhkpkfpifllkaa
open Go.RowKit Go.Maps
set_option linter.unusedVariables false

theorem lu_of {fs : List FamD} {l : List En} {zs : List EntD} (hS : SchemaOk fs) (h : IsOrd fs.length l (zs.map EntD.dat)) : LU fs zs := by
  refine ⟨h.va, fun x hx => ?_, fun f hf => ?_⟩
  · have ck : check3S fs.length x = 0 := by rw [check_dat]; exact h.ck x.dat (List.mem_map_of_mem hx)
    have := check_zero.1 ck
    exact ⟨by omega, by omega, by omega, by omega⟩
  · obtain ⟨i, hi⟩ := List.mem_iff_getElem?.1 hf
    exact (hS.2 i f hi).1.2.2
theorem shrt_ord {k : Nat} {l : List En} {zs : List EntD} (h : IsOrd k l (zs.map EntD.dat)) : ∀ x ∈ zs, Shrt x := fun x hx => shrt_check (k := k) (by rw [check_dat]; exact h.ck x.dat (List.mem_map_of_mem hx))
theorem askE_ok {C : Nat} {fs : List FamD} {clock low t n : Int} {l : List EntD} (h : askE C fs clock low t n l = 0) : C = 0 ∧ inOrderE (check3S fs.length) l = 0 := by
  unfold askE at h
  by_cases c : C = 0
  · rw [if_neg (by simpa using c)] at h
    split at h
    · cases h
    · exact ⟨c, h⟩
  · rw [if_pos c] at h
    omega
theorem Vw.low {W W1 W' : World} {zs : List EntD} {v : Value} {p : List En} (h : Vw W1 W' zs v p) (b : Below W.heap.size W W1) : Vw W W' zs v p :=
  ⟨row_low h.row b.size, fun x hx => (h.ents x hx).low b.size, b.trans (h.below.mono b.size), h.dat, h.by_⟩
end Go.Proofs.Ythhkpkfpifllkaa

namespace Go.Proofs.Ythhkpkfpifllkaa
open Go.RowKit
set_option linter.unusedVariables false

section
variable {fs : List (Int × Int)} {clock : Int}
def readR (t n : Int) (v : List En) : List En := v.foldl (fun r e => if e.ts ≤ t ∧ ((r.filter fun y => mates y e).length : Int) < n then r ++ [e] else r) []
theorem readR_snoc (t n : Int) (v : List En) (e : En) : readR t n (v ++ [e]) = if e.ts ≤ t ∧ (((readR t n v).filter fun y => mates y e).length : Int) < n then readR t n v ++ [e] else readR t n v := by
  unfold readR
  rw [List.foldl_append]
  rfl
theorem readR_sub (t n : Int) (v : List En) (e : En) (h : e ∈ readR t n v) : e ∈ v := by
  have key : ∀ (v r : List En), e ∈ v.foldl (fun r e => if e.ts ≤ t ∧ ((r.filter fun y => mates y e).length : Int) < n then r ++ [e] else r) r → e ∈ r ∨ e ∈ v := by
    intro v
    induction v with
    | nil => intro r h; exact .inl h
    | cons x v ih =>
      intro r h
      rw [List.foldl_cons] at h
      rcases ih _ h with q | q
      · split at q
        · rcases List.mem_append.1 q with q | q
          · exact .inl q
          · rw [List.mem_singleton] at q
            exact .inr (by rw [q]; exact List.mem_cons_self)
        · exact .inl q
      · exact .inr (List.mem_cons_of_mem _ q)
  rcases key v [] h with q | q
  · cases q
  · exact q
structure RI (t n : Int) (E P : List En) : Prop where
  out : (showS t n (P.map fun e => ⟨e, 5, rankIn E e⟩)).2 = readR t n (P.filter fun e => decide (e.kind = 1))
  cnt : ∀ l, P.getLast? = some l → (showS t n (P.map fun e => ⟨e, 5, rankIn E e⟩)).1 = (((showS t n (P.map fun e => ⟨e, 5, rankIn E e⟩)).2.filter fun y => mates y l).length : Int)
  le : (showS t n (P.map fun e => ⟨e, 5, rankIn E e⟩)).1 ≤ n
theorem RI.step {t n : Int} {E P Q : List En} {e : En} (hE : E = P ++ e :: Q) (hs : E.Pairwise Ah) (h3 : ∀ x ∈ E, x.kind ≤ 3) (hD : ∀ x ∈ E, ∀ y ∈ E, mates x y = true → x.ts = y.ts → x = y) (hn : 0 ≤ n) (h : RI t n E P) : RI t n E (P ++ [e]) := by
  have hp := List.pairwise_append.1 (hE ▸ hs)
  have hq := List.pairwise_cons.1 hp.2.1
  have eE : e ∈ E := by rw [hE]; simp
  have pE : ∀ y ∈ P, y ∈ E := fun y hy => by rw [hE]; exact List.mem_append_left _ hy
  have above : ∀ y ∈ P, mates y e = true → e.ts < y.ts := fun y hy M => by
    have a := hp.2.2 y hy e List.mem_cons_self
    have m := mates_iff.1 M
    have k1 := h3 y (pE y hy)
    have k2 := h3 e eE
    have t1 := a.ts m.1 m.2.1 (by omega) m.2.2 (by omega)
    have : y.ts ≠ e.ts := fun z => by
      have := hD y (pE y hy) e eE M z
      subst this
      exact ah_irrefl a
    omega
  obtain ⟨S, hS⟩ : ∃ S, S = showS t n (P.map fun e => (⟨e, 5, rankIn E e⟩ : Vd)) := ⟨_, rfl⟩
  have sub : ∀ y ∈ S.2, y ∈ P := fun y hy => by
    rw [hS, h.out] at hy
    exact (List.mem_filter.1 (readR_sub t n _ y hy)).1
  obtain ⟨c, hc⟩ : ∃ c : Int, c = if rankIn E e = 1 then 0 else S.1 := ⟨_, rfl⟩
  have hcc : c = ((S.2.filter fun y => mates y e).length : Int) := by
    by_cases hno : ∃ y ∈ P, mates y e = true
    · obtain ⟨y, hy, M⟩ := hno
      have hr : rankIn E e ≠ 1 := fun z => by
        unfold rankIn at z
        have : y ∈ E.filter fun y => mates y e && decide (e.ts < y.ts) := List.mem_filter.2 ⟨pE y hy, by simp [M, above y hy M]⟩
        have := List.length_pos_of_mem this
        omega
      rw [hc, if_neg hr]
      cases hl : P.getLast? with
      | none => rw [List.getLast?_eq_none_iff] at hl; rw [hl] at hy; cases hy
      | some l =>
        obtain ⟨P', hP⟩ := List.getLast?_eq_some_iff.1 hl
        have lP : l ∈ P := by rw [hP]; simp
        have al := hp.2.2 l lP e List.mem_cons_self
        have yl : y = l ∨ Ah y l := by
          rw [hP] at hy
          rcases List.mem_append.1 hy with q | q
          · have := (List.pairwise_append.1 (hP ▸ hp.1)).2.2 y q l (by simp)
            exact .inr this
          · rw [List.mem_singleton] at q; exact .inl q
        have m := mates_iff.1 M
        have f := Ah.midF yl al m.1 m.2.1
        have k1 := h3 y (pE y hy)
        have q := Ah.midC yl al m.1 m.2.1 (by omega) m.2.2
        have ml : mates l e = true := mates_iff.2 ⟨f.1, f.2, q.2.1⟩
        rw [hS, h.cnt l hl, ← hS]
        congr 2
        apply List.filter_congr
        intro z _
        exact mates_same ml z
    · have no : ∀ y ∈ P, mates y e = false := fun y hy => by
        cases z : mates y e with
        | false => rfl
        | true => exact absurd ⟨y, hy, z⟩ hno
      have hr : rankIn E e = 1 := by
        unfold rankIn
        have : (E.filter fun y => mates y e && decide (e.ts < y.ts)) = [] := List.filter_eq_nil_iff.2 fun y hy hyy => by
          simp only [Bool.and_eq_true, decide_eq_true_eq] at hyy
          rw [hE] at hy
          rcases List.mem_append.1 hy with q | q
          · rw [no y q] at hyy; exact absurd hyy.1 (by simp)
          · rcases List.mem_cons.1 q with rfl | q
            · omega
            · have a := hq.1 y q
              have m := mates_iff.1 hyy.1
              have k1 := h3 y (by rw [hE]; exact List.mem_append_right _ (List.mem_cons_of_mem _ q))
              have k2 := h3 e eE
              have := a.ts m.1.symm m.2.1.symm (by omega) m.2.2.symm (by omega)
              omega
        rw [this]; rfl
      rw [hc, if_pos hr]
      have : (S.2.filter fun y => mates y e) = [] := List.filter_eq_nil_iff.2 fun y hy => by rw [no y (sub y hy)]; simp
      rw [this]; rfl
  have hcn : c ≤ n := by
    rw [hc]
    split
    · exact hn
    · rw [hS]; exact h.le
  have c0 : 0 ≤ c := by rw [hcc]; omega
  have es : showS t n ((P ++ [e]).map fun e => (⟨e, 5, rankIn E e⟩ : Vd)) = if e.kind = 1 ∧ e.ts ≤ t ∧ c < n then (c + 1, S.2 ++ [e]) else (c, S.2) := by
    rw [List.map_append, List.map_singleton, showS_snoc, ← hS]
    unfold showStep
    simp only
    rw [← hc]
    by_cases z : e.kind = 1 ∧ e.ts ≤ t ∧ c < n
    · rw [if_pos z, if_pos ⟨by trivial, z.1, z.2.1, by omega⟩]
    · rw [if_neg z, if_neg (fun y => z ⟨y.2.1, y.2.2.1, by omega⟩)]
  have er : readR t n ((P ++ [e]).filter fun e => decide (e.kind = 1)) = if e.kind = 1 ∧ e.ts ≤ t ∧ c < n then S.2 ++ [e] else S.2 := by
    rw [List.filter_append]
    by_cases k : e.kind = 1
    · rw [show ([e].filter fun e => decide (e.kind = 1)) = [e] by simp [k], readR_snoc, ← h.out, ← hS, ← hcc]
      by_cases z : e.ts ≤ t ∧ c < n
      · rw [if_pos z, if_pos ⟨k, z⟩]
      · rw [if_neg z, if_neg (fun y => z y.2)]
    · rw [show ([e].filter fun e => decide (e.kind = 1)) = [] by simp [k], List.append_nil, ← h.out, ← hS, if_neg (fun y => k y.1)]
  refine ⟨?_, fun l hl => ?_, ?_⟩
  · rw [es, er]
    split <;> rfl
  · have : l = e := by simpa using hl.symm
    subst this
    rw [es]
    split
    · simp only [List.filter_append, List.length_append]
      have : mates l l = true := mates_iff.2 ⟨rfl, rfl, rfl⟩
      simp [this, hcc]
    · exact hcc
  · rw [es]
    split
    · rename_i z; simp only; omega
    · exact hcn
theorem RI.all {t n : Int} {E : List En} (hs : E.Pairwise Ah) (h3 : ∀ x ∈ E, x.kind ≤ 3) (hD : ∀ x ∈ E, ∀ y ∈ E, mates x y = true → x.ts = y.ts → x = y) (hn : 0 ≤ n) : ∀ (Q P : List En), E = P ++ Q → RI t n E P → RI t n E E
  | [], P, e, h => by rw [List.append_nil] at e; rw [e] at h ⊢; exact h
  | x :: Q, P, e, h => RI.all hs h3 hD hn Q (P ++ [x]) (by rw [e, List.append_assoc]; rfl) (h.step e hs h3 hD hn)
theorem read_five {t n : Int} {E : List En} (hs : E.Pairwise Ah) (h3 : ∀ x ∈ E, x.kind ≤ 3) (hD : ∀ x ∈ E, ∀ y ∈ E, mates x y = true → x.ts = y.ts → x = y) (hn : 0 ≤ n) : (showS t n (E.map fun e => ⟨e, 5, rankIn E e⟩)).2 = readR t n (E.filter fun e => decide (e.kind = 1)) :=
  (RI.all hs h3 hD hn E [] rfl ⟨rfl, (fun l hl => by cases hl), hn⟩).out
theorem read_ref {m : List En} (hM : ∀ e ∈ m, 1 ≤ (famAt fs e.fam).1) (hs : m.Pairwise Ah) (hv : ∀ e ∈ m, Va e) {t n : Int} (hn : 0 ≤ n) : (showS t n (verdictsS fs clock m)).2 = readR t n (m.filter (visB fs clock m)) := by
  rw [show_five hM hs hv, read_five (five_sorted hs) five_three (five_dist hs) hn, vis_five]
end
end Go.Proofs.Ythhkpkfpifllkaa

namespace Go.Proofs.Ythhkpkfpifllkaa
open Go.RowKit Go.Maps
set_option linter.unusedVariables false

def wideL : List Nat := [91, 92, 93, 94, 95]
theorem rd_lit {w : World} {g n : Nat} {bs : List Nat} (hn : n = bs.length) (hb : Bys bs) (hl : bs.length ≤ 1000) (h : ∀ i, i < bs.length → w.cell? ⟨g, i, none⟩ = some (.int .u8 ((bs.getD i 0 : Nat) : Int))) : Rd w (.slice (some ⟨g, 0, none⟩) n n) bs := by
  subst hn
  exact ⟨hb, _, _, rfl, Nat.le_refl _, by unfold maxLen; omega, by omega, .inr ⟨g, 0, rfl⟩, .inr ⟨g, 0, rfl, fun i hi => by rw [Nat.zero_add]; exact h i hi⟩⟩
theorem wide_bys : Bys wideL := by intro x hx; simp [wideL] at hx; omega
end Go.Proofs.Ythhkpkfpifllkaa

namespace Go.Proofs.Ythhkpkfpifllkaa
open Go.RowKit Go.Maps
set_option linter.unusedVariables false

def ShrtW (e : EntD) : Prop := e.row.length ≤ 140737488351232 ∧ e.qual.length ≤ 140737488351232 ∧ e.val.length ≤ 140737488351232
theorem ShrtW.sh {e : EntD} (h : ShrtW e) : Shrt e := ⟨by have := h.1; omega, by have := h.2.1; omega, by have := h.2.2; omega⟩
theorem rd_none (w : World) : Rd w (.slice none 0 0) [] := Own.rd (B := 0) ⟨rfl, World.ownsRow_nil w 0 5 1⟩ (fun x hx => by cases hx) (by simp)
def Tyd (w : World) (g : Nat) (ty : TypeId) : Prop := ∃ cur fr, w.heap[g]? = some (.cells cur ty fr)
theorem row_tyd {w : World} {B n s g : Nat} {e : TypeId} {v : Value} {xs : List Value} (h : w.ownsRow B e s v n xs) (hg : v.ownBlock = some g) : Tyd w g e := by
  rcases h.2 with ⟨rfl, _⟩ | ⟨g1, cap, cur, rfl, _, hh, _⟩
  · simp [Value.ownBlock] at hg
  · simp only [Value.ownBlock, Option.some.injEq] at hg
    subst hg
    exact ⟨cur, _, hh⟩
theorem Tyd.ne {w : World} {g g' : Nat} {e e' : TypeId} (h : Tyd w g e) (h' : Tyd w g' e') (hne : e ≠ e') : g ≠ g' := fun z => by
  subst z
  obtain ⟨c, f, h⟩ := h
  obtain ⟨c', f', h'⟩ := h'
  rw [h] at h'
  simp only [Option.some.injEq, Obj.cells.injEq] at h'
  exact hne h'.2.1
theorem Tyd.lt {w : World} {g : Nat} {e : TypeId} (h : Tyd w g e) : g < w.heap.size := by
  obtain ⟨c, f, h⟩ := h
  exact (Array.getElem?_eq_some_iff.1 h).1
structure Wd (w : World) (B : Nat) (v u : Value) (bs : List Nat) : Prop where
  form : ∃ g c, v = .slice (some ⟨g, 0, none⟩) bs.length c ∧ u = .slice (some ⟨g, 0, none⟩) (bs.length + 5) c
  own : Own w B u (bs.length + 5) (bs ++ wideL)
theorem Wd.keep {w w' : World} {B : Nat} {v u : Value} {bs : List Nat} (h : Wd w B v u bs) (k : ∀ g, u.ownBlock = some g → w'.heap[g]? = w.heap[g]?) : Wd w' B v u bs := ⟨h.form, own_same h.own k⟩
theorem Wd.rdu {w : World} {B : Nat} {v u : Value} {bs : List Nat} (h : Wd w B v u bs) (hb : Bys bs) (hl : bs.length ≤ 140737488351232) : Rd w u (bs ++ wideL) :=
  h.own.rd (fun x hx => (List.mem_append.1 hx).elim (hb x) (wide_bys x)) (by omega)
theorem Wd.rd {w : World} {B : Nat} {v u : Value} {bs : List Nat} (h : Wd w B v u bs) (hb : Bys bs) (hl : bs.length ≤ 140737488351232) : Rd w v bs := by
  have r := h.rdu hb hl
  obtain ⟨g, c, rfl, rfl⟩ := h.form
  have := r.upto bs.length (by omega)
  rwa [show (bs ++ wideL).take bs.length = bs by simp] at this
structure Re (w : World) (B : Nat) (x y : EntD) (u1 u2 u3 : Value) : Prop where
  dat : y.dat = x.dat
  r : Wd w B y.vr u1 x.row
  q : Wd w B y.vq u2 x.qual
  v : Wd w B y.vv u3 x.val
theorem Re.keep {w w' : World} {B : Nat} {x y : EntD} {u1 u2 u3 : Value} (h : Re w B x y u1 u2 u3) (k : ∀ g, Tyd w g 5 → w'.heap[g]? = w.heap[g]?) : Re w' B x y u1 u2 u3 :=
  ⟨h.dat, h.r.keep (fun g hg => k g (row_tyd h.r.own.2 hg)), h.q.keep (fun g hg => k g (row_tyd h.q.own.2 hg)), h.v.keep (fun g hg => k g (row_tyd h.v.own.2 hg))⟩
theorem Re.ok {w : World} {B : Nat} {x y : EntD} {u1 u2 u3 : Value} (h : Re w B x y u1 u2 u3) (hb : ByE x.dat) (hs : ShrtW x) : EntD.Ok w y := by
  obtain ⟨yr, yf, yq, yt, ys, yk, yv, yrow, yqual, yval⟩ := y
  have e1 : yrow = x.row := congrArg En.row h.dat
  have e2 : yqual = x.qual := congrArg En.qual h.dat
  have e3 : yval = x.val := congrArg En.val h.dat
  subst e1 e2 e3
  exact ⟨h.r.rd hb.1.1 hs.1, h.q.rd hb.1.2.1 hs.2.1, h.v.rd hb.1.2.2 hs.2.2⟩
theorem Re.one {w : World} {B : Nat} {x y : EntD} {u1 u2 u3 : Value} (h : Re w B x y u1 u2 u3) : ∀ u ∈ y.cells.toList, u.oneCell' = true := by
  obtain ⟨g1, c1, e1, _⟩ := h.r.form
  obtain ⟨g2, c2, e2, _⟩ := h.q.form
  obtain ⟨g3, c3, e3, _⟩ := h.v.form
  unfold EntD.cells
  rw [e1, e2, e3]
  intro u hu
  simp at hu
  rcases hu with rfl | rfl | rfl | rfl | rfl | rfl | rfl <;> rfl
def Apt (u v : Value) : Prop := ∀ g, u.ownBlock = some g → v.ownBlock ≠ some g
theorem ap3 {us : List Value} {u1 u2 u3 : Value} {s0 s1 s2 : Nat} (h : us.Pairwise Apt) (h0 : ∀ u ∈ us, ∀ g, u.ownBlock = some g → g < s0) (h1 : ∀ g, u1.ownBlock = some g → s0 ≤ g ∧ g < s1) (h2 : ∀ g, u2.ownBlock = some g → s1 ≤ g ∧ g < s2) (h3 : ∀ g, u3.ownBlock = some g → s2 ≤ g) (k1 : s0 ≤ s1) (k2 : s1 ≤ s2) : (us ++ [u1, u2, u3]).Pairwise Apt := by
  rw [List.pairwise_append]
  refine ⟨h, ?_, fun u hu v hv g e1 e2 => ?_⟩
  · refine List.Pairwise.cons (fun v hv g e1 e2 => ?_) (List.Pairwise.cons (fun v hv g e1 e2 => ?_) (List.pairwise_singleton _ _))
    · have a1 := h1 g e1
      simp only [List.mem_cons, List.not_mem_nil, or_false] at hv
      rcases hv with rfl | rfl
      · have := h2 g e2; omega
      · have := h3 g e2; omega
    · have a1 := h2 g e1
      simp only [List.mem_cons, List.not_mem_nil, or_false] at hv
      subst hv
      have := h3 g e2; omega
  · have a1 := h0 u hu g e1
    simp only [List.mem_cons, List.not_mem_nil, or_false] at hv
    rcases hv with rfl | rfl | rfl
    · have := h1 g e2; omega
    · have := h2 g e2; omega
    · have := h3 g e2; omega
end Go.Proofs.Ythhkpkfpifllkaa

namespace Go.Proofs.Ythhkpkfpifllkaa
open Go.RowKit
set_option linter.unusedVariables false

section
variable {fs : List (Int × Int)} {clock : Int}
def fateN (fs : List (Int × Int)) (clock : Int) (major : Bool) (low : Int) (m : List En) (e : En) : Int :=
  if 4 ≤ e.kind then (if shadow m e || (major && decide (e.ts ≤ low)) then 5 else 0)
  else if decidesS m e = false then 1
  else if e.ts ≤ maskOf m e then 2
  else if expS fs clock e then 3
  else if hasPut m e = false then (if major then 5 else 0)
  else if (famAt fs e.fam).1 < above fs clock m e + 1 then 4
  else 0
def fateE (m : List En) (e : En) : En := if 4 ≤ e.kind then e else if hasPut m e = false then e else hk e
theorem fate_ref {m : List En} {major : Bool} {low : Int} {e : En} : fateR fs clock major low m e = if fateN fs clock major low m e = 0 then some (fateE m e) else none := by
  unfold fateR fateN fateE
  by_cases k : 4 ≤ e.kind
  · simp only [if_pos k]
    split <;> simp
  · simp only [if_neg k]
    by_cases d : decidesS m e = false
    · simp only [if_pos d]; simp
    · simp only [if_neg d]
      by_cases t : e.ts ≤ maskOf m e
      · simp only [if_pos t]; simp
      · simp only [if_neg t]
        by_cases x : expS fs clock e = true
        · simp only [if_pos x]; simp
        · simp only [if_neg x]
          by_cases p : hasPut m e = false
          · simp only [if_pos p]
            cases major <;> simp
          · simp only [if_neg p]
            by_cases r : (famAt fs e.fam).1 < above fs clock m e + 1
            · simp only [if_pos r]; simp
            · simp only [if_neg r]; simp
theorem squash_refN {m : List En} {major : Bool} {low : Int} : leftL fs clock m major low = (m.filter fun e => decide (fateN fs clock major low m e = 0)).map (fateE m) := by
  rw [squash_ref]
  have key : ∀ p : List En, p.filterMap (fateR fs clock major low m) = (p.filter fun e => decide (fateN fs clock major low m e = 0)).map (fateE m) := by
    intro p
    induction p with
    | nil => rfl
    | cons x p ih =>
      rw [List.filterMap_cons, fate_ref]
      by_cases z : fateN fs clock major low m x = 0
      · rw [if_pos z, List.filter_cons_of_pos (by simpa using z), List.map_cons, ih]
      · rw [if_neg z, List.filter_cons_of_neg (by simpa using z), ih]
  exact key m
theorem fateN_mark {m : List En} {major : Bool} {low : Int} {e : En} (k : 4 ≤ e.kind) : fateN fs clock major low m e = if shadow m e || (major && decide (e.ts ≤ low)) then 5 else 0 := by unfold fateN; rw [if_pos k]
theorem fateN_ver {m : List En} {major : Bool} {low : Int} {e : En} (k : e.kind ≤ 3) : fateN fs clock major low m e = if decidesS m e = false then 1 else if e.ts ≤ maskOf m e then 2 else if expS fs clock e then 3 else if hasPut m e = false then (if major then 5 else 0) else if (famAt fs e.fam).1 < above fs clock m e + 1 then 4 else 0 := by unfold fateN; rw [if_neg (by omega)]
end
end Go.Proofs.Ythhkpkfpifllkaa

namespace Go.Proofs.Ythhkpkfpifllkaa
open Go.RowKit Go.Maps
set_option linter.unusedVariables false

theorem box_fate (w : World) (fa : Option Addr) (K fc : Nat) (e : EntD) : ∃ X1 W, X1 = (w.alloc (.cells #[.slice fa K fc] 24)).alloc (.cells #[.slice none 0 0, .int .i64 0, .slice none 0 0, .int .i64 0, .int .i64 0, .int .i64 0, .slice none 0 0] 45) ∧ W = X1.alloc (.cells e.cells 45) ∧ X1.heap.size = w.heap.size + 1 + 1 ∧ Below w.heap.size w X1 ∧ Below w.heap.size w W ∧ (∀ Z, Below W.heap.size W Z → Z.cell? ⟨w.heap.size, 0, none⟩ = some (.slice fa K fc) ∧ Z.heap[w.heap.size + 1]? = some (.cells #[.slice none 0 0, .int .i64 0, .slice none 0 0, .int .i64 0, .int .i64 0, .int .i64 0, .slice none 0 0] 45 (0, 0)) ∧ EBox Z X1.heap.size e) := by
  obtain ⟨X0, hX0, A1, hc⟩ := sch_box w fa K fc
  obtain ⟨zc, hz⟩ : ∃ zc : Array Value, zc = #[.slice none 0 0, .int .i64 0, .slice none 0 0, .int .i64 0, .int .i64 0, .int .i64 0, .slice none 0 0] := ⟨_, rfl⟩
  rw [← hz]
  have A2 := (Below.refl X0.heap.size X0).alloc (Nat.le_refl _) (.cells zc 45)
  have rz : (X0.alloc (.cells zc 45)).heap[X0.heap.size]? = some (.cells zc 45 (0, 0)) := heap_new X0 (.cells zc 45)
  obtain ⟨X1, hX1⟩ : ∃ X1, X1 = X0.alloc (.cells zc 45) := ⟨_, rfl⟩
  rw [← hX1] at A2 rz
  obtain ⟨W, hW, A3, hb, -⟩ := box1 X1 e
  have s0 : X0.heap.size = w.heap.size + 1 := by rw [hX0]; simp
  have s1 : X1.heap.size = w.heap.size + 1 + 1 := by rw [hX1, World.size_alloc, s0]
  refine ⟨X1, W, by rw [hX1, hX0], hW, s1, A1.trans (A2.mono A1.size), A1.trans ((A2.trans (A3.mono A2.size)).mono A1.size), fun Z k => ⟨hc Z (A2.trans ((A3.trans (k.mono A3.size)).mono A2.size)), ?_, hb Z k⟩⟩
  rw [← s0, (A3.trans (k.mono A3.size)).block _ (by omega)]
  exact rz
structure FK (Z : World) (gs gr ge : Nat) (v : Value) (e : EntD) : Prop where
  sc : Z.cell? ⟨gs, 0, none⟩ = some v
  rz : Z.heap[gr]? = some (.cells #[.slice none 0 0, .int .i64 0, .slice none 0 0, .int .i64 0, .int .i64 0, .int .i64 0, .slice none 0 0] 45 (0, 0))
  be : EBox Z ge e
theorem FK.z {Z : World} {gs gr ge : Nat} {v : Value} {e : EntD} (h : FK Z gs gr ge v e) : Z.cell? ⟨gr, 0, none⟩ = some (.slice none 0 0) ∧ Z.cell? ⟨gr, 1, none⟩ = some (.int .i64 0) ∧ Z.cell? ⟨gr, 2, none⟩ = some (.slice none 0 0) ∧ Z.cell? ⟨gr, 3, none⟩ = some (.int .i64 0) ∧ Z.cell? ⟨gr, 4, none⟩ = some (.int .i64 0) ∧ Z.cell? ⟨gr, 5, none⟩ = some (.int .i64 0) ∧ Z.cell? ⟨gr, 6, none⟩ = some (.slice none 0 0) := by
  have := h.rz
  simp [World.cell?, this]
theorem FK.f {Z : World} {gs gr ge : Nat} {v : Value} {e : EntD} (h : FK Z gs gr ge v e) : Z.frozen? ⟨gr, 0, none⟩ = false ∧ Z.frozen? ⟨gr, 1, none⟩ = false ∧ Z.frozen? ⟨gr, 2, none⟩ = false ∧ Z.frozen? ⟨gr, 3, none⟩ = false ∧ Z.frozen? ⟨gr, 4, none⟩ = false ∧ Z.frozen? ⟨gr, 5, none⟩ = false ∧ Z.frozen? ⟨gr, 6, none⟩ = false := by
  have := h.rz
  simp [World.frozen?, this]
theorem below7 {w Z : World} {B gr : Nat} (h : Below B w Z) (hg : B ≤ gr) (a b c d e f g : Value) : Below B w (((((((Z.setCell ⟨gr, 0, none⟩ a).setCell ⟨gr, 1, none⟩ b).setCell ⟨gr, 2, none⟩ c).setCell ⟨gr, 3, none⟩ d).setCell ⟨gr, 4, none⟩ e).setCell ⟨gr, 5, none⟩ f).setCell ⟨gr, 6, none⟩ g) :=
  ((((((h.setCell hg _).setCell hg _).setCell hg _).setCell hg _).setCell hg _).setCell hg _).setCell hg _
theorem husk_dat {e : EntD} (hv : Va e.dat) (h2 : (hk e.dat).kind = 2) : (⟨e.vr, e.fam, e.vq, e.ts, e.seq, 2, .slice none 0 0, e.row, e.qual, []⟩ : EntD).dat = hk e.dat := by
  have hval : e.val = [] := hv.val (fun z => by
    rcases (hk_eq e.dat).2.2.2.2.2.2 with ⟨q, _⟩ | ⟨_, q⟩ <;> omega)
  unfold hk at h2 ⊢
  by_cases k : e.dat.kind = 3
  · rw [if_pos k]
    simp only [EntD.dat, hval]
  · rw [if_neg k] at h2 ⊢
    have h3 : e.kind = 2 := h2
    simp only [EntD.dat, hval, h3]
def FateP (fs : List FamD) (clock : Int) (major : Bool) (low : Int) (m : List En) (W0 : World) (e : EntD) (N : Int) (y : EntD) (W' : World) : Prop :=
  N = fateN (mt fs) clock major low m e.dat ∧ EntD.Ok W' y ∧ (y.row = e.row ∧ y.qual = e.qual ∧ (y.val = e.val ∨ y.val = [])) ∧ (N = 0 → y.dat = fateE m e.dat) ∧ Below W0.heap.size W0 W'
theorem FateP.same {fs : List FamD} {clock : Int} {major : Bool} {low : Int} {m : List En} {W0 : World} {e : EntD} {N : Int} {W' : World} (hN : N = fateN (mt fs) clock major low m e.dat) (he : EntD.Ok W0 e) (b : Below W0.heap.size W0 W') (h : N = 0 → e.dat = fateE m e.dat) : FateP fs clock major low m W0 e N e W' :=
  ⟨hN, he.later b, ⟨rfl, rfl, .inl rfl⟩, h, b⟩
end Go.Proofs.Ythhkpkfpifllkaa

namespace Go.Proofs.Ythhkpkfpifllkaa
open Go.RowKit
set_option linter.unusedVariables false

inductive Pushed (fs : List (Int × Int)) (clock : Int) (k : Nat) : List EntD → List EntD → Sp → List Vd → Prop
  | nil : Pushed fs clock k [] [] Sp.zero []
  | twin {l m : List EntD} {s : Sp} {vs : List Vd} {e y : EntD} (h : Pushed fs clock k l m s vs) (hy : m.getLast? = some y) (he : y.dat = e.dat) : Pushed fs clock k (l ++ [e]) m s (vs ++ [⟨e.dat, 1, 0⟩])
  | step {l m : List EntD} {s : Sp} {vs : List Vd} {e : EntD} (h : Pushed fs clock k l m s vs) (ho : ∀ y ∈ m, compareS y e ≤ 0 ∧ y.seq ≠ e.seq) (hc : check3S k e = 0) : Pushed fs clock k (l ++ [e]) (m ++ [e]) (stepS fs clock s e.dat).2 (vs ++ (stepS fs clock s e.dat).1)
section
variable {fs : List (Int × Int)} {clock : Int} {k : Nat} {l m : List EntD} {s : Sp} {vs : List Vd}
theorem Pushed.state (h : Pushed fs clock k l m s vs) : s = (walkS fs clock Sp.zero (m.map EntD.dat)).2 ∧ vs.filter kept = (walkS fs clock Sp.zero (m.map EntD.dat)).1.filter kept ∧ vs.length + m.length = (walkS fs clock Sp.zero (m.map EntD.dat)).1.length + l.length := by
  induction h with
  | nil => exact ⟨rfl, rfl, rfl⟩
  | twin h hy he ih =>
    refine ⟨ih.1, ?_, ?_⟩
    · rw [List.filter_append, ih.2.1]
      simp [kept]
    · have := ih.2.2
      simp only [List.length_append, List.length_cons, List.length_nil]
      omega
  | @step l m s vs e h ho hc ih =>
    have e1 := walk_snoc (fs := fs) (clock := clock) Sp.zero (m.map EntD.dat) e.dat
    rw [List.map_append, List.map_cons, List.map_nil, e1, ← ih.1]
    refine ⟨rfl, ?_, ?_⟩
    · rw [List.filter_append, List.filter_append, ih.2.1]
    · have := ih.2.2
      simp only [List.length_append, List.length_cons, List.length_nil]
      omega
theorem Pushed.ord (h : Pushed fs clock k l m s vs) : (m.Pairwise fun x y => compareS x y ≤ 0) ∧ (m.Pairwise fun x y => x.seq ≠ y.seq) ∧ (∀ x ∈ m, check3S k x = 0 ∧ x ∈ l) ∧ ∀ d, d ∈ m.map EntD.dat ↔ d ∈ l.map EntD.dat := by
  induction h with
  | nil => exact ⟨.nil, .nil, by simp, fun d => Iff.rfl⟩
  | twin h hy he ih =>
    refine ⟨ih.1, ih.2.1, fun x hx => ⟨(ih.2.2.1 x hx).1, List.mem_append_left _ (ih.2.2.1 x hx).2⟩, fun d => ?_⟩
    rw [List.map_append, List.mem_append, ih.2.2.2 d]
    refine ⟨fun q => .inl q, fun q => q.elim id (fun q => ?_)⟩
    rw [List.map_cons, List.map_nil, List.mem_singleton] at q
    rw [← ih.2.2.2 d, q, ← he]
    exact List.mem_map_of_mem (List.mem_of_getLast? hy)
  | step h ho hc ih =>
    refine ⟨List.pairwise_append.2 ⟨ih.1, List.pairwise_singleton _ _, fun x hx y hy => ?_⟩, List.pairwise_append.2 ⟨ih.2.1, List.pairwise_singleton _ _, fun x hx y hy => ?_⟩, fun x hx => ?_, fun d => ?_⟩
    · rw [List.mem_singleton] at hy
      rw [hy]; exact (ho x hx).1
    · rw [List.mem_singleton] at hy
      rw [hy]; exact (ho x hx).2
    · rcases List.mem_append.1 hx with q | q
      · exact ⟨(ih.2.2.1 x q).1, List.mem_append_left _ (ih.2.2.1 x q).2⟩
      · rw [List.mem_singleton] at q
        rw [q]; exact ⟨hc, List.mem_append_right _ List.mem_cons_self⟩
    · rw [List.map_append, List.map_append, List.mem_append, List.mem_append, ih.2.2.2 d]
theorem Pushed.isOrd (h : Pushed fs clock k l m s vs) : IsOrd k (l.map EntD.dat) (m.map EntD.dat) := by
  obtain ⟨h1, h2, h3, h4⟩ := h.ord
  refine ⟨?_, ?_, fun e he => ?_, fun e he => ?_, h4⟩
  · rw [List.pairwise_map]
    exact (h1.and h2).imp fun h => ah_of h.1 h.2
  · rw [List.pairwise_map]; exact h2
  · obtain ⟨y, hy, rfl⟩ := List.mem_map.1 he
    exact va_of_check (h3 y hy).1
  · obtain ⟨y, hy, rfl⟩ := List.mem_map.1 he
    exact (h3 y hy).1
theorem out_kept (major : Bool) (low : Int) (us : List Vd) : outS major low us = outS major low (us.filter kept) := by
  unfold outS
  rw [List.filter_filter]
  congr 1
  refine List.filter_congr fun v _ => ?_
  unfold staysS kept
  by_cases h : v.fate = 1
  · simp [h]
  · simp [h]
theorem out_append (major : Bool) (low : Int) (us ws : List Vd) : outS major low (us ++ ws) = outS major low us ++ outS major low ws := by
  unfold outS
  rw [List.filter_append, List.map_append]
theorem Pushed.out (h : Pushed fs clock k l m s vs) (major : Bool) (low : Int) : outS major low vs = outS major low (walkS fs clock Sp.zero (m.map EntD.dat)).1 ∧ outS major low (vs ++ (resolveS fs clock s 3).1) = outS major low (verdictsS fs clock (m.map EntD.dat)) := by
  obtain ⟨h1, h2, h3⟩ := h.state
  have q : outS major low vs = outS major low (walkS fs clock Sp.zero (m.map EntD.dat)).1 := by rw [out_kept, h2, ← out_kept]
  refine ⟨q, ?_⟩
  rw [out_append, q, h1, ← out_append]
  rfl
def fCnt (us : List Vd) (p : Vd → Bool) : Int := ((us.filter p).length : Nat)
theorem cnt_is (major : Bool) (low : Int) (us : List Vd) : cntS major low us = ⟨fCnt us fun v => decide (v.fate = 1), fCnt us fun v => decide (v.fate = 2), fCnt us fun v => decide (v.fate = 3), fCnt us fun v => decide (v.fate = 4), fCnt us fun v => !staysS major low v && !decide (v.fate = 1) && !decide (v.fate = 2) && !decide (v.fate = 3) && !decide (v.fate = 4)⟩ := by
  have gen : ∀ (n : Nat) (us : List Vd), us.length = n → cntS major low us = ⟨fCnt us fun v => decide (v.fate = 1), fCnt us fun v => decide (v.fate = 2), fCnt us fun v => decide (v.fate = 3), fCnt us fun v => decide (v.fate = 4), fCnt us fun v => !staysS major low v && !decide (v.fate = 1) && !decide (v.fate = 2) && !decide (v.fate = 3) && !decide (v.fate = 4)⟩ := by
    intro n
    induction n with
    | zero => intro us hu; rw [List.length_eq_zero_iff.1 hu]; rfl
    | succ n ih =>
      intro us hu
      obtain ⟨v, ws, rfl⟩ : ∃ v ws, us = ws ++ [v] := by
        have hne : us ≠ [] := fun z => by rw [z] at hu; cases hu
        exact ⟨us.getLast hne, us.dropLast, (List.dropLast_concat_getLast hne).symm⟩
      rw [cntS_snoc, ih ws (by simpa using hu)]
      unfold fCnt
      simp only [List.filter_append, List.length_append]
      by_cases f1 : v.fate = 1
      · simp [f1, staysS, Ct.inc]
      · by_cases f2 : v.fate = 2
        · simp [f2, staysS, Ct.inc]
        · by_cases f3 : v.fate = 3
          · simp [f3, staysS, Ct.inc]
          · by_cases f4 : v.fate = 4
            · simp [f4, staysS, Ct.inc]
            · cases hst : staysS major low v with
              | true => simp [f1, f2, f3, f4, hst]
              | false => simp [f1, f2, f3, f4, hst, Ct.inc]
  exact gen _ us rfl
end
end Go.Proofs.Ythhkpkfpifllkaa

namespace Go.Proofs.Ythhkpkfpifllkaa
open Go.RowKit
set_option linter.unusedVariables false

section
variable {fs : List (Int × Int)} {clock : Int}
def whyV (major : Bool) (low : Int) (v : Vd) : Int := if staysS major low v then 0 else if v.fate = 1 then 1 else if v.fate = 2 then 2 else if v.fate = 3 then 3 else if v.fate = 4 then 4 else 5
theorem why_sv {m : List En} {major : Bool} {low : Int} {e : En} (hm : e ∈ m) : whyV major low (sv fs clock m e) = fateN fs clock major low m e := by
  unfold fateN
  by_cases k : 4 ≤ e.kind
  · rw [if_pos k, sv_mark k]
    cases sh : shadow m e with
    | true => simp [whyV, staysS]
    | false =>
      cases major with
      | false => simp [whyV, staysS]
      | true =>
        by_cases z : e.ts ≤ low
        · have : ¬ low < e.ts := by omega
          simp [whyV, staysS, z, this]
        · have : low < e.ts := by omega
          simp [whyV, staysS, z, this]
  · rw [if_neg k]
    unfold sv
    rw [if_neg k]
    cases d : decidesS m e with
    | false => simp [whyV, staysS]
    | true =>
      rw [if_pos rfl, if_neg (by decide)]
      have pk := kd_put hm (by omega : e.kind ≤ 3)
      unfold decideS
      by_cases t : e.ts ≤ maskOf m e
      · rw [if_pos t]
        simp [whyV, staysS, t]
      · rw [if_neg t]
        by_cases x : expS fs clock e = true
        · have x2 : 0 < (famAt fs e.fam).2 ∧ e.ts + (famAt fs e.fam).2 ≤ clock := by unfold expS at x; simpa using x
          rw [if_pos x]
          simp [whyV, staysS, t, x2]
        · have x2 : ¬ (0 < (famAt fs e.fam).2 ∧ e.ts + (famAt fs e.fam).2 ≤ clock) := by unfold expS at x; simpa using x
          rw [if_neg x]
          have g1 : ∀ α (a b : α), (if ({ e with kind := kd m e } : En).ts ≤ ({ Sp.zero with mask := maskOf m e, rank := above fs clock m e } : Sp).mask then a else b) = b := fun α a b => if_neg t
          rw [g1]
          have g2 : ∀ α (a b : α), (if 0 < (famAt fs ({ e with kind := kd m e } : En).fam).2 ∧ ({ e with kind := kd m e } : En).ts + (famAt fs ({ e with kind := kd m e } : En).fam).2 ≤ clock then a else b) = b := fun α a b => if_neg x2
          rw [g2]
          cases p : hasPut m e with
          | false =>
            have kd3 : kd m e = 3 := by
              by_cases z : kd m e = 3
              · exact z
              · have := pk.1 z; rw [p] at this; cases this
            rw [if_pos kd3, if_pos rfl]
            cases major <;> simp [whyV, staysS]
          | true =>
            have kd3 : kd m e ≠ 3 := pk.2 p
            rw [if_neg kd3, if_neg (by decide : ¬ (true = false))]
            by_cases r : (famAt fs e.fam).1 < above fs clock m e + 1
            · simp [whyV, staysS, r]
            · simp [whyV, staysS, r]
def refCt (fs : List (Int × Int)) (clock : Int) (major : Bool) (low : Int) (n : Nat) (m : List En) : Ct :=
  ⟨((n : Int) - m.length) + ((m.filter fun e => decide (fateN fs clock major low m e = 1)).length : Nat), ((m.filter fun e => decide (fateN fs clock major low m e = 2)).length : Nat), ((m.filter fun e => decide (fateN fs clock major low m e = 3)).length : Nat), ((m.filter fun e => decide (fateN fs clock major low m e = 4)).length : Nat), ((m.filter fun e => decide (fateN fs clock major low m e = 5)).length : Nat)⟩
theorem why_is (major : Bool) (low : Int) (v : Vd) : (v.fate = 1 ↔ whyV major low v = 1) ∧ (v.fate = 2 ↔ whyV major low v = 2) ∧ (v.fate = 3 ↔ whyV major low v = 3) ∧ (v.fate = 4 ↔ whyV major low v = 4) ∧ ((!staysS major low v && !decide (v.fate = 1) && !decide (v.fate = 2) && !decide (v.fate = 3) && !decide (v.fate = 4)) = true ↔ whyV major low v = 5) := by
  have hs : staysS major low v = true → v.fate ≠ 1 ∧ v.fate ≠ 2 ∧ v.fate ≠ 3 ∧ v.fate ≠ 4 := fun h => by
    unfold staysS at h
    refine ⟨fun z => ?_, fun z => ?_, fun z => ?_, fun z => ?_⟩ <;> simp [z] at h
  unfold whyV
  cases h : staysS major low v with
  | true =>
    obtain ⟨h1, h2, h3, h4⟩ := hs h
    simp [h1, h2, h3, h4]
  | false =>
    by_cases f1 : v.fate = 1
    · simp [f1]
    · by_cases f2 : v.fate = 2
      · simp [f2]
      · by_cases f3 : v.fate = 3
        · simp [f3]
        · by_cases f4 : v.fate = 4
          · simp [f4]
          · simp [f1, f2, f3, f4]
theorem filter_kept_len (us : List Vd) (p : Vd → Bool) (hp : ∀ v, v.fate = 1 → p v = false) : (us.filter p).length = ((us.filter kept).filter p).length := by
  rw [List.filter_filter]
  congr 1
  refine List.filter_congr fun v _ => ?_
  unfold kept
  by_cases h : v.fate = 1
  · simp [h, hp v h]
  · simp [h]
theorem one_len (us : List Vd) : (us.filter fun v => decide (v.fate = 1)).length + (us.filter kept).length = us.length := by
  induction us with
  | nil => rfl
  | cons v us ih =>
    by_cases h : v.fate = 1
    · rw [List.filter_cons_of_pos (by simpa using h), List.filter_cons_of_neg (by simp [kept, h])]
      simp only [List.length_cons]; omega
    · rw [List.filter_cons_of_neg (by simpa using h), List.filter_cons_of_pos (by simp [kept, h])]
      simp only [List.length_cons]; omega
theorem map_filter_len (m : List En) (f : En → Vd) (p : Vd → Bool) (q : En → Bool) (h : ∀ e ∈ m, p (f e) = q e) : ((m.map f).filter p).length = (m.filter q).length := by
  rw [List.filter_map, List.length_map]
  congr 1
  exact List.filter_congr fun e he => h e he
theorem cnt_ref {m : List En} {us : List Vd} {n : Nat} (major : Bool) (low : Int) (h : us.filter kept = (m.map (sv fs clock m)).filter kept) (hl : us.length = n) : cntS major low us = refCt fs clock major low n m := by
  rw [cnt_is]
  unfold refCt fCnt
  have w : ∀ e ∈ m, whyV major low (sv fs clock m e) = fateN fs clock major low m e := fun e he => why_sv he
  have part : ∀ (p : Vd → Bool) (k : Int), (∀ v, v.fate = 1 → p v = false) → (∀ v, p v = true ↔ whyV major low v = k) → (us.filter p).length = (m.filter fun e => decide (fateN fs clock major low m e = k)).length := fun p k hp hk => by
    rw [filter_kept_len us p hp, h, ← filter_kept_len _ p hp]
    refine map_filter_len m _ p _ fun e he => ?_
    rw [← w e he]
    have := hk (sv fs clock m e)
    cases q : p (sv fs clock m e) with
    | true => rw [decide_eq_true (this.1 q)]
    | false => rw [decide_eq_false (fun z => by have := this.2 z; rw [q] at this; cases this)]
  have p2 := part (fun v => decide (v.fate = 2)) 2 (fun v z => by simp [z]) (fun v => by rw [decide_eq_true_eq]; exact (why_is major low v).2.1)
  have p3 := part (fun v => decide (v.fate = 3)) 3 (fun v z => by simp [z]) (fun v => by rw [decide_eq_true_eq]; exact (why_is major low v).2.2.1)
  have p4 := part (fun v => decide (v.fate = 4)) 4 (fun v z => by simp [z]) (fun v => by rw [decide_eq_true_eq]; exact (why_is major low v).2.2.2.1)
  have p5 := part (fun v => !staysS major low v && !decide (v.fate = 1) && !decide (v.fate = 2) && !decide (v.fate = 3) && !decide (v.fate = 4)) 5 (fun v z => by simp [z]) (fun v => (why_is major low v).2.2.2.2)
  have l1 := one_len us
  have l2 := one_len (m.map (sv fs clock m))
  rw [← h, List.length_map] at l2
  have p1 : ((m.map (sv fs clock m)).filter fun v => decide (v.fate = 1)).length = (m.filter fun e => decide (fateN fs clock major low m e = 1)).length := map_filter_len m _ _ _ fun e he => by
    rw [← w e he]
    have := (why_is major low (sv fs clock m e)).1
    by_cases z : (sv fs clock m e).fate = 1
    · rw [decide_eq_true z, decide_eq_true (this.1 z)]
    · rw [decide_eq_false z, decide_eq_false (fun y => z (this.2 y))]
  rw [p2, p3, p4, p5]
  congr 1
  omega
def refCtP (fs : List (Int × Int)) (clock : Int) (major : Bool) (low : Int) (n : Nat) (m p : List En) : Ct :=
  ⟨((n : Int) - m.length) + ((p.filter fun e => decide (fateN fs clock major low m e = 1)).length : Nat), ((p.filter fun e => decide (fateN fs clock major low m e = 2)).length : Nat), ((p.filter fun e => decide (fateN fs clock major low m e = 3)).length : Nat), ((p.filter fun e => decide (fateN fs clock major low m e = 4)).length : Nat), ((p.filter fun e => decide (fateN fs clock major low m e = 5)).length : Nat)⟩
def Ct.incN (c : Ct) (k : Int) : Ct := if k = 1 then { c with o := c.o + 1 } else if k = 2 then { c with m := c.m + 1 } else if k = 3 then { c with x := c.x + 1 } else if k = 4 then { c with a := c.a + 1 } else if k = 5 then { c with k := c.k + 1 } else c
theorem fateN_range {m : List En} {major : Bool} {low : Int} {e : En} : 0 ≤ fateN fs clock major low m e ∧ fateN fs clock major low m e ≤ 5 := by
  unfold fateN
  repeat' split
  all_goals omega
theorem refCtP_snoc {m p : List En} {major : Bool} {low : Int} {n : Nat} {e : En} : refCtP fs clock major low n m (p ++ [e]) = (refCtP fs clock major low n m p).incN (fateN fs clock major low m e) := by
  have r := fateN_range (fs := fs) (clock := clock) (m := m) (major := major) (low := low) (e := e)
  unfold refCtP Ct.incN
  simp only [List.filter_append, List.length_append]
  generalize hk : fateN fs clock major low m e = k at *
  have : k = 0 ∨ k = 1 ∨ k = 2 ∨ k = 3 ∨ k = 4 ∨ k = 5 := by omega
  rcases this with rfl | rfl | rfl | rfl | rfl | rfl <;> simp [hk, Int.add_assoc]
theorem refCtP_all {m : List En} {major : Bool} {low : Int} {n : Nat} : refCtP fs clock major low n m m = refCt fs clock major low n m := rfl
theorem refCtP_ok {m p : List En} {major : Bool} {low : Int} {n : Nat} (h1 : m.length ≤ n) (h2 : p.length ≤ m.length) : (refCtP fs clock major low n m p).Ok (n + m.length) := by
  have l := fun (q : En → Bool) => List.length_filter_le q p
  unfold refCtP Ct.Ok
  refine ⟨⟨?_, ?_⟩, ⟨?_, ?_⟩, ⟨?_, ?_⟩, ⟨?_, ?_⟩, ?_, ?_⟩
  all_goals simp only
  all_goals first | omega | (have a := l (fun e => decide (fateN fs clock major low m e = 1)); have b := l (fun e => decide (fateN fs clock major low m e = 2)); have c := l (fun e => decide (fateN fs clock major low m e = 3)); have d := l (fun e => decide (fateN fs clock major low m e = 4)); have f := l (fun e => decide (fateN fs clock major low m e = 5)); omega)
end
end Go.Proofs.Ythhkpkfpifllkaa

namespace Go.Proofs.Ythhkpkfpifllkaa
open Go.RowKit Go.Maps
set_option linter.unusedVariables false

def CtBx (w : World) (d : Nat) (c : Ct) : Prop := w.heap[d]? = some (.cells #[.int .i64 c.o, .int .i64 c.m, .int .i64 c.x, .int .i64 c.a, .int .i64 c.k] 68 (0, 0))
section
variable {w w' : World} {d : Nat} {c : Ct}
theorem CtBx.keep (h : CtBx w d c) (k : w'.heap[d]? = w.heap[d]?) : CtBx w' d c := k.trans h
theorem CtBx.lt (h : CtBx w d c) : d < w.heap.size := (Array.getElem?_eq_some_iff.1 h).1
theorem CtBx.later (h : CtBx w d c) (b : Below w.heap.size w w') : CtBx w' d c := h.keep (b.block d h.lt)
theorem CtBx.c0 (h : CtBx w d c) : w.cell? ⟨d, 0, none⟩ = some (.int .i64 c.o) := cell_at9 h rfl
theorem CtBx.c1 (h : CtBx w d c) : w.cell? ⟨d, 1, none⟩ = some (.int .i64 c.m) := cell_at9 h rfl
theorem CtBx.c2 (h : CtBx w d c) : w.cell? ⟨d, 2, none⟩ = some (.int .i64 c.x) := cell_at9 h rfl
theorem CtBx.c3 (h : CtBx w d c) : w.cell? ⟨d, 3, none⟩ = some (.int .i64 c.a) := cell_at9 h rfl
theorem CtBx.c4 (h : CtBx w d c) : w.cell? ⟨d, 4, none⟩ = some (.int .i64 c.k) := cell_at9 h rfl
theorem CtBx.fz (h : CtBx w d c) (i : Nat) : w.frozen? ⟨d, i, none⟩ = false := by unfold CtBx at h; simp [World.frozen?, h]
theorem CtBx.set1 (h : CtBx w d c) : CtBx (w.setCell ⟨d, 0, none⟩ (.int .i64 (c.o + 1))) d (c.incN 1) := by unfold CtBx Ct.incN at *; simp [World.setCell, Array.getElem?_modify, h]
theorem CtBx.set2 (h : CtBx w d c) : CtBx (w.setCell ⟨d, 1, none⟩ (.int .i64 (c.m + 1))) d (c.incN 2) := by unfold CtBx Ct.incN at *; simp [World.setCell, Array.getElem?_modify, h]
theorem CtBx.set3 (h : CtBx w d c) : CtBx (w.setCell ⟨d, 2, none⟩ (.int .i64 (c.x + 1))) d (c.incN 3) := by unfold CtBx Ct.incN at *; simp [World.setCell, Array.getElem?_modify, h]
theorem CtBx.set4 (h : CtBx w d c) : CtBx (w.setCell ⟨d, 3, none⟩ (.int .i64 (c.a + 1))) d (c.incN 4) := by unfold CtBx Ct.incN at *; simp [World.setCell, Array.getElem?_modify, h]
theorem CtBx.set5 (h : CtBx w d c) : CtBx (w.setCell ⟨d, 4, none⟩ (.int .i64 (c.k + 1))) d (c.incN 5) := by unfold CtBx Ct.incN at *; simp [World.setCell, Array.getElem?_modify, h]
end
theorem box_drop (w : World) (fa : Option Addr) (K fc : Nat) : ∃ W, W = (w.alloc (.cells #[.slice fa K fc] 24)).alloc (.cells #[.int .i64 0, .int .i64 0, .int .i64 0, .int .i64 0, .int .i64 0] 68) ∧ Below w.heap.size w W ∧ (∀ Z, Below W.heap.size W Z → Z.cell? ⟨w.heap.size, 0, none⟩ = some (.slice fa K fc) ∧ CtBx Z (w.heap.size + 1) ⟨0, 0, 0, 0, 0⟩) := by
  obtain ⟨X0, hX0, A1, hc⟩ := sch_box w fa K fc
  have A2 := (Below.refl X0.heap.size X0).alloc (Nat.le_refl _) (.cells #[.int .i64 0, .int .i64 0, .int .i64 0, .int .i64 0, .int .i64 0] 68)
  have hz : CtBx (X0.alloc (.cells #[.int .i64 0, .int .i64 0, .int .i64 0, .int .i64 0, .int .i64 0] 68)) X0.heap.size ⟨0, 0, 0, 0, 0⟩ := heap_new X0 _
  have sz : X0.heap.size = w.heap.size + 1 := by rw [hX0]; simp
  rw [← hX0]
  refine ⟨_, rfl, A1.trans (A2.mono A1.size), fun Z k => ⟨hc Z (A2.trans (k.mono A2.size)), ?_⟩⟩
  rw [← sz]
  exact hz.later k
end Go.Proofs.Ythhkpkfpifllkaa
