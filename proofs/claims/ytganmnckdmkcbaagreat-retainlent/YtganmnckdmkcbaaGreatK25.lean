import Derived.Test.YtganmnckdmkcbaaGreatK24
namespace Go.Proofs.YtganmnckdmkcbaaGreat
open Go.RowKit Go.Maps
set_option linter.unusedVariables false

theorem Rm.self {B : Nat} {w : World} {g : Nat} {l ys : List EntD} {us : List Value} {vL vW : Value} (h : Rm B w g l l.length (ys ++ [endE]) us vL vW) (hyl : ys.length = l.length) : Rm B w g ys ys.length (ys ++ [endE]) us vL vW := by
  refine ⟨h.box, h.gB, h.rL, h.rW, by rw [hyl]; exact h.ul, by simp, fun i hi => ?_, h.ap⟩
  obtain ⟨x, y, u1, u2, u3, a1, a2, a3, a4, a5, a6⟩ := h.el i (by omega)
  have a2' := a2
  rw [List.getElem?_append_left hi] at a2'
  have e1 : y.row = x.row := congrArg En.row a6.dat
  have e2 : y.qual = x.qual := congrArg En.qual a6.dat
  have e3 : y.val = x.val := congrArg En.val a6.dat
  exact ⟨y, y, u1, u2, u3, a2', a2, a3, a4, a5, ⟨rfl, by rw [e1]; exact a6.r, by rw [e2]; exact a6.q, by rw [e3]; exact a6.v⟩⟩
theorem Rm.re {B : Nat} {w : World} {g : Nat} {l ys : List EntD} {us : List Value} {vL vW : Value} (h : Rm B w g ys ys.length (ys ++ [endE]) us vL vW) (hz : ys.map EntD.dat = l.map EntD.dat) : Rm B w g l l.length (ys ++ [endE]) us vL vW := by
  have ln : ys.length = l.length := by have := congrArg List.length hz; simpa using this
  refine ⟨h.box, h.gB, h.rL, h.rW, by rw [← ln]; exact h.ul, by rw [← ln]; simp, fun i hi => ?_, h.ap⟩
  obtain ⟨x, y, u1, u2, u3, a1, a2, a3, a4, a5, a6⟩ := h.el i (by omega)
  obtain ⟨x', hx'⟩ : ∃ x', l[i]? = some x' := ⟨l[i], List.getElem?_eq_getElem hi⟩
  have e0 : x.dat = x'.dat := by
    have := congrArg (fun l => l[i]?) hz
    simp only [List.getElem?_map, a1, hx', Option.map_some, Option.some.injEq] at this
    exact this
  have e1 : x.row = x'.row := congrArg En.row e0
  have e2 : x.qual = x'.qual := congrArg En.qual e0
  have e3 : x.val = x'.val := congrArg En.val e0
  exact ⟨x', y, u1, u2, u3, hx', a2, a3, a4, a5, ⟨a6.dat.trans e0, by rw [← e1]; exact a6.r, by rw [← e2]; exact a6.q, by rw [← e3]; exact a6.v⟩⟩
set_option maxRecDepth 100000 in
theorem spot3_any (i : Int) (n : Nat) (hn : 0 < n) (hn2 : n ≤ 281474976710656) (hi : -9223372036854775808 ≤ i ∧ i ≤ 9223372036854775807) (w : World) :
    Calls Tryz.prog 65 #[.int .i64 i, .int .i64 (n : Int)] w fun e w' => (∃ p : Nat, p < n ∧ e = .returned (.int .i64 (p : Int))) ∧ w' = w := by
  have hn0 : ¬ ((n : Int) = 0) := by omega
  have hn1 : ((n : Int) == 0) = false := by rw [beq_eq_false_iff_ne]; omega
  have hlt : Int.tmod i n < n := Int.tmod_lt_of_pos i (by omega)
  have hgt : -(n : Int) < Int.tmod i n := by
    have := Int.lt_tmod_of_pos i (show (0 : Int) < n by omega)
    omega
  obtain ⟨r, hr⟩ : ∃ r, r = Int.tmod i n := ⟨_, rfl⟩
  rw [← hr] at hlt hgt
  have hw : r < 0 → IntKind.i64.wrap (r + (n : Int)) = r + (n : Int) := fun h => IntWalk.i64_in _ ⟨by omega, by omega⟩
  rw [hr] at hlt hgt hw
  clear hr
  go_enter Tryz.func65, Tryz.ntmps65
  go_wp2
  · go_ret
    exact ⟨⟨(Int.tmod i n + n).toNat, by omega, by rw [Int.toNat_of_nonneg (by omega)]; rfl⟩, rfl⟩
  · go_ret
    exact ⟨⟨(Int.tmod i n).toNat, by omega, by rw [Int.toNat_of_nonneg (by omega)]; rfl⟩, rfl⟩
theorem Wd.set {w : World} {B g n c : Nat} {u : Value} {bs : List Nat} (h : Wd w B (.slice (some ⟨g, 0, none⟩) n c) u bs) {k : Nat} (hk : k < bs.length) (v : Nat) : Wd (w.setCell ⟨g, k, none⟩ (.int .u8 (v : Int))) B (.slice (some ⟨g, 0, none⟩) n c) u (bs.set k v) := by
  obtain ⟨g', c', e1, e2⟩ := h.form
  simp only [Value.slice.injEq, Option.some.injEq, Addr.mk.injEq] at e1
  obtain ⟨⟨rfl, -, -⟩, rfl, rfl⟩ := e1
  refine ⟨⟨g, c, by rw [List.length_set], by rw [List.length_set]; exact e2⟩, ?_⟩
  have ho := h.own
  rw [e2] at ho ⊢
  refine ⟨by simp [wideL], ?_⟩
  rw [List.length_set]
  have := row_set ho.2 (k := k) (by simp [bv]; omega) (.int .u8 (v : Int))
  have e : (bv (bs ++ wideL)).set k (.int .u8 (v : Int)) = bv (bs.set k v ++ wideL) := by
    rw [← List.set_append_left _ _ hk]
    unfold bv
    rw [List.map_set]
  rw [e] at this
  exact this
theorem Wd.off {w : World} {B g k : Nat} {v u : Value} {bs : List Nat} (h : Wd w B v u bs) (hg : u.ownBlock ≠ some g) (x : Value) : Wd (w.setCell ⟨g, k, none⟩ x) B v u bs :=
  h.keep (fun g' hg' => Below.heap_setCell _ _ _ _ (fun z => hg (by have : g' = g := z; rw [← this]; exact hg')))
theorem apt_at {us : List Value} (h : us.Pairwise Apt) {i j : Nat} {u v : Value} (hu : us[i]? = some u) (hv : us[j]? = some v) (hne : i ≠ j) : Apt u v := by
  rw [List.pairwise_iff_getElem] at h
  obtain ⟨li, rfl⟩ := List.getElem?_eq_some_iff.1 hu
  obtain ⟨lj, rfl⟩ := List.getElem?_eq_some_iff.1 hv
  rcases Nat.lt_or_gt_of_ne hne with q | q
  · exact h i j li lj q
  · intro g e1 e2
    exact h j i lj li q g e2 e1
theorem evals_setC {xs : List EntD} {s c : Nat} {y y' : EntD} {v : Value} (hs : xs[s]? = some y) (hc : c < 7) (hy : y'.cells.toList = y.cells.toList.set c v) : evals (xs.set s y') = (evals xs).set (s * 7 + c) v := by
  have l7 : ∀ z : EntD, z.cells.toList.length = 7 := fun z => rfl
  induction xs generalizing s with
  | nil => simp at hs
  | cons x xs ih =>
    cases s with
    | zero =>
      simp only [List.getElem?_cons_zero, Option.some.injEq] at hs
      subst hs
      show y'.cells.toList ++ evals xs = (x.cells.toList ++ evals xs).set (0 * 7 + c) v
      rw [List.set_append_left _ _ (by rw [l7]; omega), hy, Nat.zero_mul, Nat.zero_add]
    | succ s =>
      simp only [List.getElem?_cons_succ] at hs
      show x.cells.toList ++ evals (xs.set s y') = (x.cells.toList ++ evals xs).set ((s + 1) * 7 + c) v
      rw [ih hs, List.set_append_right _ _ (by rw [l7]; omega), l7, show (s + 1) * 7 + c - 7 = s * 7 + c by omega]
theorem evals_same {xs : List EntD} {s : Nat} {y y' : EntD} (hs : xs[s]? = some y) (hy : y'.cells = y.cells) : evals (xs.set s y') = evals xs := by
  unfold evals
  congr 1
  rw [List.map_set, hy]
  apply List.ext_getElem?
  intro i
  by_cases e : s = i
  · subst e
    rw [List.getElem?_set_self (by rw [List.length_map]; exact (List.getElem?_eq_some_iff.1 hs).1), List.getElem?_map, hs]
    rfl
  · rw [List.getElem?_set_ne e]
def BentP (B B1 g : Nat) (us : List Value) (vL vW : Value) (n : Nat) (w w' : World) : Prop := ∃ ys' : List EntD, ys'.length = n ∧ Rm B w' g ys' ys'.length (ys' ++ [endE]) us vL vW ∧ Fz B B1 w w' ∧ (∀ y ∈ ys', ShrtW y) ∧ (∀ y ∈ ys', ByE y.dat)
theorem mem_set3 {ys : List EntD} {s : Nat} {y : EntD} {P : EntD → Prop} (h : ∀ x ∈ ys, P x) (hy : P y) : ∀ x ∈ ys.set s y, P x := fun x hx => by
  rcases List.mem_or_eq_of_mem_set hx with q | q
  · exact h x q
  · rw [q]; exact hy
theorem Rm.setF {B B1 g gL N cL s c : Nat} {w : World} {ys : List EntD} {us : List Value} {vW v : Value} {y y' : EntD} (h : Rm B w g ys ys.length (ys ++ [endE]) us (.slice (some ⟨gL, 0, none⟩) N cL) vW) (hN : N = ys.length + 1) (hs : ys[s]? = some y) (hc : c < 7) (hy : y'.cells.toList = y.cells.toList.set c v) (e1 : y'.vr = y.vr ∧ y'.vq = y.vq ∧ y'.vv = y.vv) (e2 : y'.row = y.row ∧ y'.qual = y.qual ∧ y'.val = y.val) (hB1 : gL < B1) (hSh : ∀ y ∈ ys, ShrtW y) (hBy : ∀ y ∈ ys, ByE y.dat) : BentP B B1 g us (.slice (some ⟨gL, 0, none⟩) N cL) vW ys.length w (w.setCell ⟨gL, s * 7 + c, none⟩ v) := by
  have hsl : s < ys.length := (List.getElem?_eq_some_iff.1 hs).1
  have ty := row_tyd h.rL (g := gL) rfl
  have k : ∀ (i : Nat) (t : TypeId), Tyd w i t → t ≠ 84 → (w.setCell ⟨gL, s * 7 + c, none⟩ v).heap[i]? = w.heap[i]? := fun i t hi n => Below.heap_setCell _ _ _ _ (fun z => hi.ne ty n z)
  have gLB := (h.rL.lt gL rfl).1
  have ym := List.mem_of_getElem? hs
  refine ⟨ys.set s y', by simp, ⟨(k g _ h.box.tyd (by decide)).trans h.box, h.gB, ?_, row_same h.rW (fun i hi => k i _ (row_tyd h.rW hi) (by decide)), by rw [List.length_set]; exact h.ul, by simp, fun i hi => ?_, h.ap⟩, Fz.set gLB hB1, mem_set3 hSh ?_, mem_set3 hBy ?_⟩
  · have ev : evals (ys.set s y' ++ [endE]) = (evals (ys ++ [endE])).set (s * 7 + c) v := by
      have hs2 : (ys ++ [endE])[s]? = some y := by rw [List.getElem?_append_left hsl]; exact hs
      rw [← evals_setC hs2 hc hy, List.set_append_left _ _ hsl]
    rw [ev]
    have hr := h.rL
    have ln : (ys ++ [endE]).length = N := by simp [hN]
    have ln2 : (ys.set s y' ++ [endE]).length = N := by simp [hN]
    rw [ln] at hr
    rw [ln2]
    exact row_set hr (by have := hr.1; rw [this]; omega) v
  · rw [List.length_set] at hi
    obtain ⟨x, z, u1, u2, u3, a1, a2, a3, a4, a5, a6⟩ := h.el i hi
    have a2' := a2
    rw [List.getElem?_append_left hi, a1] at a2'
    simp only [Option.some.injEq] at a2'
    subst a2'
    have kk : ∀ g, Tyd w g 5 → (w.setCell ⟨gL, s * 7 + c, none⟩ v).heap[g]? = w.heap[g]? := fun g hg => k g _ hg (by decide)
    have a7 := a6.keep kk
    by_cases e : s = i
    · subst e
      rw [hs] at a1
      simp only [Option.some.injEq] at a1
      subst a1
      refine ⟨y', y', u1, u2, u3, by rw [List.getElem?_set_self hsl], by rw [List.getElem?_append_left (by simp; exact hsl), List.getElem?_set_self hsl], a3, a4, a5, ⟨rfl, ?_, ?_, ?_⟩⟩
      · rw [e1.1, e2.1]; exact a7.r
      · rw [e1.2.1, e2.2.1]; exact a7.q
      · rw [e1.2.2, e2.2.2]; exact a7.v
    · exact ⟨x, x, u1, u2, u3, by rw [List.getElem?_set_ne e]; exact a1, by rw [List.getElem?_append_left (by simp; exact hi), List.getElem?_set_ne e]; exact a1, a3, a4, a5, a7⟩
  · have := hSh y ym
    unfold ShrtW at this ⊢
    rw [e2.1, e2.2.1, e2.2.2]
    exact this
  · have := hBy y ym
    unfold ByE at this ⊢
    simp only [EntD.dat] at this ⊢
    rw [e2.1, e2.2.1, e2.2.2]
    exact this
theorem bys_set {bs : List Nat} {k v : Nat} (h : Bys bs) (hv : v < 256) : Bys (bs.set k v) := fun x hx => by
  rcases List.mem_or_eq_of_mem_set hx with q | q
  · exact h x q
  · rw [q]; exact hv
theorem Rm.setR {B B1 g s k v gb n c : Nat} {w : World} {ys : List EntD} {us : List Value} {vL vW : Value} {y : EntD} (h : Rm B w g ys ys.length (ys ++ [endE]) us vL vW) (hs : ys[s]? = some y) (hf : y.vr = .slice (some ⟨gb, 0, none⟩) n c) (hk : k < y.row.length) (hv : v < 256) (hB1 : gb < B1) (hSh : ∀ y ∈ ys, ShrtW y) (hBy : ∀ y ∈ ys, ByE y.dat) : BentP B B1 g us vL vW ys.length w (w.setCell ⟨gb, k, none⟩ (.int .u8 (v : Int))) := by
  have hsl : s < ys.length := (List.getElem?_eq_some_iff.1 hs).1
  have ym := List.mem_of_getElem? hs
  obtain ⟨x0, y0, u1, u2, u3, a1, a2, a3, a4, a5, a6⟩ := h.el s hsl
  rw [List.getElem?_append_left hsl, hs] at a2
  rw [hs] at a1
  simp only [Option.some.injEq] at a1 a2
  subst a1 a2
  have w0 : Wd w B (.slice (some ⟨gb, 0, none⟩) n c) u1 y.row := by have := a6.r; rw [hf] at this; exact this
  obtain ⟨gb', c', f1, f2⟩ := w0.form
  simp only [Value.slice.injEq, Option.some.injEq, Addr.mk.injEq] at f1
  obtain ⟨⟨rfl, -, -⟩, rfl, rfl⟩ := f1
  have hgb : (u1).ownBlock = some gb := by rw [f2]; rfl
  have ty := row_tyd w0.own.2 hgb
  have gB := (w0.own.2.lt gb hgb).1
  have kt : ∀ (i : Nat) (t : TypeId), Tyd w i t → t ≠ 5 → (w.setCell ⟨gb, k, none⟩ (.int .u8 (v : Int))).heap[i]? = w.heap[i]? := fun i t hi n => Below.heap_setCell _ _ _ _ (fun z => hi.ne ty n z)
  have hh := hSh y ym
  have hb := hBy y ym
  have w1 := w0.set hk v
  refine ⟨ys.set s { y with row := y.row.set k v }, by simp, ⟨(kt g _ h.box.tyd (by decide)).trans h.box, h.gB, ?_, row_same h.rW (fun i hi => kt i _ (row_tyd h.rW hi) (by decide)), by rw [List.length_set]; exact h.ul, by simp, fun i hi => ?_, h.ap⟩, Fz.set gB hB1, mem_set3 hSh ?_, mem_set3 hBy ?_⟩
  · have ev : evals (ys.set s { y with row := y.row.set k v } ++ [endE]) = evals (ys ++ [endE]) := by
      have hs2 : (ys ++ [endE])[s]? = some y := by rw [List.getElem?_append_left hsl]; exact hs
      rw [← evals_same (y' := { y with row := y.row.set k v }) hs2 rfl, List.set_append_left _ _ hsl]
    have ln : (ys.set s { y with row := y.row.set k v } ++ [endE]).length = (ys ++ [endE]).length := by simp
    rw [ev, ln]
    exact row_same h.rL (fun i hi => kt i _ (row_tyd h.rL hi) (by decide))
  · rw [List.length_set] at hi
    by_cases e : s = i
    · subst e
      refine ⟨_, _, u1, u2, u3, by rw [List.getElem?_set_self hsl], by rw [List.getElem?_append_left (by simp; exact hsl), List.getElem?_set_self hsl], a3, a4, a5, ⟨rfl, ?_, ?_, ?_⟩⟩
      · show Wd _ B y.vr _ (y.row.set k v); rw [hf]; exact w1
      · exact a6.q.off (fun z => apt_at h.ap a3 a4 (by omega) gb hgb z) _
      · exact a6.v.off (fun z => apt_at h.ap a3 a5 (by omega) gb hgb z) _
    · obtain ⟨x, z, v1, v2, v3, b1, b2, b3, b4, b5, b6⟩ := h.el i hi
      have b2' := b2
      rw [List.getElem?_append_left hi, b1] at b2'
      simp only [Option.some.injEq] at b2'
      subst b2'
      exact ⟨x, x, v1, v2, v3, by rw [List.getElem?_set_ne e]; exact b1, by rw [List.getElem?_append_left (by simp; exact hi), List.getElem?_set_ne e]; exact b1, b3, b4, b5, ⟨rfl, b6.r.off (fun z => apt_at h.ap a3 b3 (by omega) gb hgb z) _, b6.q.off (fun z => apt_at h.ap a3 b4 (by omega) gb hgb z) _, b6.v.off (fun z => apt_at h.ap a3 b5 (by omega) gb hgb z) _⟩⟩
  · exact ⟨by show (y.row.set k v).length ≤ _; rw [List.length_set]; exact hh.1, hh.2.1, hh.2.2⟩
  · exact ⟨⟨bys_set hb.1.1 hv, hb.1.2.1, hb.1.2.2⟩, by show (y.row.set k v).length ≤ _; rw [List.length_set]; exact hb.2.1, hb.2.2.1, hb.2.2.2⟩
theorem Rm.setQ {B B1 g s k v gb n c : Nat} {w : World} {ys : List EntD} {us : List Value} {vL vW : Value} {y : EntD} (h : Rm B w g ys ys.length (ys ++ [endE]) us vL vW) (hs : ys[s]? = some y) (hf : y.vq = .slice (some ⟨gb, 0, none⟩) n c) (hk : k < y.qual.length) (hv : v < 256) (hB1 : gb < B1) (hSh : ∀ y ∈ ys, ShrtW y) (hBy : ∀ y ∈ ys, ByE y.dat) : BentP B B1 g us vL vW ys.length w (w.setCell ⟨gb, k, none⟩ (.int .u8 (v : Int))) := by
  have hsl : s < ys.length := (List.getElem?_eq_some_iff.1 hs).1
  have ym := List.mem_of_getElem? hs
  obtain ⟨x0, y0, u1, u2, u3, a1, a2, a3, a4, a5, a6⟩ := h.el s hsl
  rw [List.getElem?_append_left hsl, hs] at a2
  rw [hs] at a1
  simp only [Option.some.injEq] at a1 a2
  subst a1 a2
  have w0 : Wd w B (.slice (some ⟨gb, 0, none⟩) n c) u2 y.qual := by have := a6.q; rw [hf] at this; exact this
  obtain ⟨gb', c', f1, f2⟩ := w0.form
  simp only [Value.slice.injEq, Option.some.injEq, Addr.mk.injEq] at f1
  obtain ⟨⟨rfl, -, -⟩, rfl, rfl⟩ := f1
  have hgb : (u2).ownBlock = some gb := by rw [f2]; rfl
  have ty := row_tyd w0.own.2 hgb
  have gB := (w0.own.2.lt gb hgb).1
  have kt : ∀ (i : Nat) (t : TypeId), Tyd w i t → t ≠ 5 → (w.setCell ⟨gb, k, none⟩ (.int .u8 (v : Int))).heap[i]? = w.heap[i]? := fun i t hi n => Below.heap_setCell _ _ _ _ (fun z => hi.ne ty n z)
  have hh := hSh y ym
  have hb := hBy y ym
  have w1 := w0.set hk v
  refine ⟨ys.set s { y with qual := y.qual.set k v }, by simp, ⟨(kt g _ h.box.tyd (by decide)).trans h.box, h.gB, ?_, row_same h.rW (fun i hi => kt i _ (row_tyd h.rW hi) (by decide)), by rw [List.length_set]; exact h.ul, by simp, fun i hi => ?_, h.ap⟩, Fz.set gB hB1, mem_set3 hSh ?_, mem_set3 hBy ?_⟩
  · have ev : evals (ys.set s { y with qual := y.qual.set k v } ++ [endE]) = evals (ys ++ [endE]) := by
      have hs2 : (ys ++ [endE])[s]? = some y := by rw [List.getElem?_append_left hsl]; exact hs
      rw [← evals_same (y' := { y with qual := y.qual.set k v }) hs2 rfl, List.set_append_left _ _ hsl]
    have ln : (ys.set s { y with qual := y.qual.set k v } ++ [endE]).length = (ys ++ [endE]).length := by simp
    rw [ev, ln]
    exact row_same h.rL (fun i hi => kt i _ (row_tyd h.rL hi) (by decide))
  · rw [List.length_set] at hi
    by_cases e : s = i
    · subst e
      refine ⟨_, _, u1, u2, u3, by rw [List.getElem?_set_self hsl], by rw [List.getElem?_append_left (by simp; exact hsl), List.getElem?_set_self hsl], a3, a4, a5, ⟨rfl, ?_, ?_, ?_⟩⟩
      · exact a6.r.off (fun z => apt_at h.ap a4 a3 (by omega) gb hgb z) _
      · show Wd _ B y.vq _ (y.qual.set k v); rw [hf]; exact w1
      · exact a6.v.off (fun z => apt_at h.ap a4 a5 (by omega) gb hgb z) _
    · obtain ⟨x, z, v1, v2, v3, b1, b2, b3, b4, b5, b6⟩ := h.el i hi
      have b2' := b2
      rw [List.getElem?_append_left hi, b1] at b2'
      simp only [Option.some.injEq] at b2'
      subst b2'
      exact ⟨x, x, v1, v2, v3, by rw [List.getElem?_set_ne e]; exact b1, by rw [List.getElem?_append_left (by simp; exact hi), List.getElem?_set_ne e]; exact b1, b3, b4, b5, ⟨rfl, b6.r.off (fun z => apt_at h.ap a4 b3 (by omega) gb hgb z) _, b6.q.off (fun z => apt_at h.ap a4 b4 (by omega) gb hgb z) _, b6.v.off (fun z => apt_at h.ap a4 b5 (by omega) gb hgb z) _⟩⟩
  · exact ⟨hh.1, by show (y.qual.set k v).length ≤ _; rw [List.length_set]; exact hh.2.1, hh.2.2⟩
  · exact ⟨⟨hb.1.1, bys_set hb.1.2.1 hv, hb.1.2.2⟩, hb.2.1, by show (y.qual.set k v).length ≤ _; rw [List.length_set]; exact hb.2.2.1, hb.2.2.2⟩
theorem Rm.setV {B B1 g s k v gb n c : Nat} {w : World} {ys : List EntD} {us : List Value} {vL vW : Value} {y : EntD} (h : Rm B w g ys ys.length (ys ++ [endE]) us vL vW) (hs : ys[s]? = some y) (hf : y.vv = .slice (some ⟨gb, 0, none⟩) n c) (hk : k < y.val.length) (hv : v < 256) (hB1 : gb < B1) (hSh : ∀ y ∈ ys, ShrtW y) (hBy : ∀ y ∈ ys, ByE y.dat) : BentP B B1 g us vL vW ys.length w (w.setCell ⟨gb, k, none⟩ (.int .u8 (v : Int))) := by
  have hsl : s < ys.length := (List.getElem?_eq_some_iff.1 hs).1
  have ym := List.mem_of_getElem? hs
  obtain ⟨x0, y0, u1, u2, u3, a1, a2, a3, a4, a5, a6⟩ := h.el s hsl
  rw [List.getElem?_append_left hsl, hs] at a2
  rw [hs] at a1
  simp only [Option.some.injEq] at a1 a2
  subst a1 a2
  have w0 : Wd w B (.slice (some ⟨gb, 0, none⟩) n c) u3 y.val := by have := a6.v; rw [hf] at this; exact this
  obtain ⟨gb', c', f1, f2⟩ := w0.form
  simp only [Value.slice.injEq, Option.some.injEq, Addr.mk.injEq] at f1
  obtain ⟨⟨rfl, -, -⟩, rfl, rfl⟩ := f1
  have hgb : (u3).ownBlock = some gb := by rw [f2]; rfl
  have ty := row_tyd w0.own.2 hgb
  have gB := (w0.own.2.lt gb hgb).1
  have kt : ∀ (i : Nat) (t : TypeId), Tyd w i t → t ≠ 5 → (w.setCell ⟨gb, k, none⟩ (.int .u8 (v : Int))).heap[i]? = w.heap[i]? := fun i t hi n => Below.heap_setCell _ _ _ _ (fun z => hi.ne ty n z)
  have hh := hSh y ym
  have hb := hBy y ym
  have w1 := w0.set hk v
  refine ⟨ys.set s { y with val := y.val.set k v }, by simp, ⟨(kt g _ h.box.tyd (by decide)).trans h.box, h.gB, ?_, row_same h.rW (fun i hi => kt i _ (row_tyd h.rW hi) (by decide)), by rw [List.length_set]; exact h.ul, by simp, fun i hi => ?_, h.ap⟩, Fz.set gB hB1, mem_set3 hSh ?_, mem_set3 hBy ?_⟩
  · have ev : evals (ys.set s { y with val := y.val.set k v } ++ [endE]) = evals (ys ++ [endE]) := by
      have hs2 : (ys ++ [endE])[s]? = some y := by rw [List.getElem?_append_left hsl]; exact hs
      rw [← evals_same (y' := { y with val := y.val.set k v }) hs2 rfl, List.set_append_left _ _ hsl]
    have ln : (ys.set s { y with val := y.val.set k v } ++ [endE]).length = (ys ++ [endE]).length := by simp
    rw [ev, ln]
    exact row_same h.rL (fun i hi => kt i _ (row_tyd h.rL hi) (by decide))
  · rw [List.length_set] at hi
    by_cases e : s = i
    · subst e
      refine ⟨_, _, u1, u2, u3, by rw [List.getElem?_set_self hsl], by rw [List.getElem?_append_left (by simp; exact hsl), List.getElem?_set_self hsl], a3, a4, a5, ⟨rfl, ?_, ?_, ?_⟩⟩
      · exact a6.r.off (fun z => apt_at h.ap a5 a3 (by omega) gb hgb z) _
      · exact a6.q.off (fun z => apt_at h.ap a5 a4 (by omega) gb hgb z) _
      · show Wd _ B y.vv _ (y.val.set k v); rw [hf]; exact w1
    · obtain ⟨x, z, v1, v2, v3, b1, b2, b3, b4, b5, b6⟩ := h.el i hi
      have b2' := b2
      rw [List.getElem?_append_left hi, b1] at b2'
      simp only [Option.some.injEq] at b2'
      subst b2'
      exact ⟨x, x, v1, v2, v3, by rw [List.getElem?_set_ne e]; exact b1, by rw [List.getElem?_append_left (by simp; exact hi), List.getElem?_set_ne e]; exact b1, b3, b4, b5, ⟨rfl, b6.r.off (fun z => apt_at h.ap a5 b3 (by omega) gb hgb z) _, b6.q.off (fun z => apt_at h.ap a5 b4 (by omega) gb hgb z) _, b6.v.off (fun z => apt_at h.ap a5 b5 (by omega) gb hgb z) _⟩⟩
  · exact ⟨hh.1, hh.2.1, by show (y.val.set k v).length ≤ _; rw [List.length_set]; exact hh.2.2⟩
  · exact ⟨⟨hb.1.1, hb.1.2.1, bys_set hb.1.2.2 hv⟩, hb.2.1, hb.2.2.1, by show (y.val.set k v).length ≤ _; rw [List.length_set]; exact hb.2.2.2⟩
end Go.Proofs.YtganmnckdmkcbaaGreat

namespace Go.Proofs.YtganmnckdmkcbaaGreat
open Go.RowKit Go.Maps
set_option linter.unusedVariables false

theorem evals_get3' {xs : List EntD} {s j : Nat} {y : EntD} {u : Value} (hs : xs[s]? = some y) (hj : y.cells.toList[j]? = some u) : (evals xs)[s * 7 + j]? = some u := by
  have l7 : ∀ z : EntD, z.cells.toList.length = 7 := fun z => rfl
  have hj7 : j < 7 := by have := (List.getElem?_eq_some_iff.1 hj).1; rw [l7] at this; exact this
  induction xs generalizing s with
  | nil => simp at hs
  | cons x xs ih =>
    cases s with
    | zero =>
      simp only [List.getElem?_cons_zero, Option.some.injEq] at hs
      subst hs
      show (x.cells.toList ++ evals xs)[0 * 7 + j]? = some u
      rw [List.getElem?_append_left (by rw [l7]; omega), Nat.zero_mul, Nat.zero_add]
      exact hj
    | succ s =>
      simp only [List.getElem?_cons_succ] at hs
      show (x.cells.toList ++ evals xs)[(s + 1) * 7 + j]? = some u
      rw [List.getElem?_append_right (by rw [l7]; omega), l7, show (s + 1) * 7 + j - 7 = s * 7 + j by omega]
      exact ih hs
set_option maxRecDepth 100000 in
set_option maxHeartbeats 1000000 in
theorem put3_any {w : World} {g n c : Nat} {bs : List Nat} (at_ : Int) (hr : Rd w (.slice (some ⟨g, 0, none⟩) n c) bs) (hfz : ∀ k, w.frozen? ⟨g, k, none⟩ = false) (hi : -9223372036854775808 ≤ at_ ∧ at_ ≤ 9223372036854775807) :
    Calls Tryz.prog 66 #[.slice (some ⟨g, 0, none⟩) n c, .int .i64 at_] w fun e w' => e = .returned (.tuple #[]) ∧ (w' = w ∨ ∃ k v : Nat, k < n ∧ v < 256 ∧ w' = w.setCell ⟨g, k, none⟩ (.int .u8 (v : Int))) := by
  obtain ⟨hn, hle, hcm, hl48⟩ := rd_lens hr
  by_cases h0 : n = 0
  · subst h0
    clear hr hn
    go_enter Tryz.func66, Tryz.ntmps66
    go_wp2
    first | go_ret | refine bodyPost_end (v := .tuple #[]) (by first | rfl | kernel_rfl) rfl ?_ | refine bodyPost_ret (v := .tuple #[]) (by first | rfl | kernel_rfl) rfl ?_
    exact ⟨rfl, .inl rfl⟩
  · have hn0 : (0 : Int) < (n : Int) := by omega
    have HSp := Lib.hid (spot3_any at_ n (by omega) (by omega) hi w)
    have HR := Lib.hid hr
    have HN := Lib.hid hn
    have HFz := Lib.hid hfz
    clear hr hn hfz
    go_enter Tryz.func66, Tryz.ntmps66
    go_wp2_with fail
    refine Calls.mono HSp.out ?_
    rintro r w1 ⟨⟨k, hk, rfl⟩, rfl⟩
    obtain ⟨b, hb, hb256⟩ : ∃ b : Nat, w1.cell? ⟨g, k, none⟩ = some (.int .u8 (b : Int)) ∧ b < 256 := by
      have hkb : k < bs.length := by rw [← HN.out]; exact hk
      refine ⟨bs[k], ?_, HR.out.1 _ (List.getElem_mem hkb)⟩
      obtain ⟨_, a', c', e, _, _, _, _, h5⟩ := HR.out
      rcases h5 with h5 | ⟨b', off', q, hc⟩
      · rw [h5] at hkb; simp at hkb
      · simp only [Value.slice.injEq] at e
        obtain ⟨e1, -, -⟩ := e
        rw [q] at e1
        simp only [Option.some.injEq, Addr.mk.injEq] at e1
        obtain ⟨rfl, rfl, -⟩ := e1
        have := hc k hkb
        simpa [List.getD, List.getElem?_eq_getElem hkb] using this
    have fz := HFz.out k
    have hk2 : (k : Int) < (n : Int) := by omega
    have k0 : (0 : Int) ≤ (k : Int) := by omega
    clear HSp HR HFz
    go_wp2
    have hx : bits .xor .u8 (b : Int) 1 = ((b ^^^ 1 : Nat) : Int) := by
      have := u8_xor_nat b 1 hb256 (by decide)
      simpa using this
    first | go_ret | refine bodyPost_end (v := .tuple #[]) (by first | rfl | kernel_rfl) rfl ?_ | refine bodyPost_ret (v := .tuple #[]) (by first | rfl | kernel_rfl) rfl ?_
    exact ⟨rfl, .inr ⟨k, b ^^^ 1, hk, Nat.xor_lt_two_pow (n := 8) hb256 (by decide), by rw [← hx]⟩⟩
theorem Rm.zs {B : Nat} {w : World} {g gL M cL : Nat} {ys : List EntD} {us : List Value} {vW : Value} (h : Rm B w g ys ys.length (ys ++ [endE]) us (.slice (some ⟨gL, 0, none⟩) M cL) vW) (hM : M = ys.length + 1) {s : Nat} {y : EntD} (hs : ys[s]? = some y) : (∀ (j : Nat) u, y.cells.toList[j]? = some u → w.cell? ⟨gL, s * 7 + j, none⟩ = some u) ∧ (∀ j, w.frozen? ⟨gL, j, none⟩ = false) := by
  have ln : (ys ++ [endE]).length = M := by simp [hM]
  have hr := h.rL
  rw [ln] at hr
  rcases hr.2 with ⟨h1, h2⟩ | ⟨g', cap, cur, h1, h2, h3, h4, h5, h6, h7⟩
  · cases h1
  · simp only [Value.slice.injEq, Option.some.injEq, Addr.mk.injEq] at h1
    obtain ⟨⟨rfl, -, -⟩, -, -⟩ := h1
    refine ⟨fun j u hj => ?_, fun j => by simp [World.frozen?, h3]⟩
    have hsl : s < ys.length := (List.getElem?_eq_some_iff.1 hs).1
    have hj7 : j < 7 := by have := (List.getElem?_eq_some_iff.1 hj).1; exact this
    have hg := evals_get3' (xs := ys ++ [endE]) (s := s) (y := y) (by rw [List.getElem?_append_left hsl]; exact hs) hj
    rw [← h7, List.getElem?_take_of_lt (by omega)] at hg
    simp only [World.cell?, h3]
    simpa using hg
theorem BentP.keep {B B1 g n : Nat} {us : List Value} {vL vW : Value} {w w1 : World} {ys : List EntD} (hl : ys.length = n) (hR : Rm B w1 g ys ys.length (ys ++ [endE]) us vL vW) (fz : Fz B B1 w w1) (hSh : ∀ y ∈ ys, ShrtW y) (hBy : ∀ y ∈ ys, ByE y.dat) : BentP B B1 g us vL vW n w w1 := ⟨ys, hl, hR, fz, hSh, hBy⟩
theorem BentP.from {B B1 g n : Nat} {us : List Value} {vL vW : Value} {w w0 w1 : World} (h : BentP B B1 g us vL vW n w w1) (fz : Fz B B1 w0 w) : BentP B B1 g us vL vW n w0 w1 := by
  obtain ⟨ys, a1, a2, a3, a4, a5⟩ := h
  exact ⟨ys, a1, a2, fz.trans a3, a4, a5⟩
set_option maxRecDepth 100000 in
set_option maxHeartbeats 8000000 in
theorem bent_any {w : World} {B B1 g gL M cL : Nat} {ys : List EntD} {us : List Value} {vW : Value} {k at_ by_ : Int} (hR : Rm B w g ys ys.length (ys ++ [endE]) us (.slice (some ⟨gL, 0, none⟩) M cL) vW) (hM : M = ys.length + 1) (hSh : ∀ y ∈ ys, ShrtW y) (hBy : ∀ y ∈ ys, ByE y.dat) (hn : ys.length ≤ 1353245080300) (ha : -9223372036854775808 ≤ at_ ∧ at_ ≤ 9223372036854775807) (hb : -9223372036854775808 ≤ by_ ∧ by_ ≤ 9223372036854775807) (hB1 : gL < B1) (hU : ∀ u ∈ us, ∀ g, u.ownBlock = some g → g < B1) (hBw : B1 ≤ w.heap.size) :
    Calls Tryz.prog 28 #[.slice (some ⟨gL, 0, none⟩) ys.length cL, .agg #[.int .i64 k, .int .i64 at_, .int .i64 by_]] w fun e w' => e = .returned (.tuple #[]) ∧ BentP B B1 g us (.slice (some ⟨gL, 0, none⟩) M cL) vW ys.length w w' := by
  have hb00 := hb
  obtain ⟨X, hX⟩ : ∃ X, X = w.alloc (.cells #[.int .i64 k, .int .i64 at_, .int .i64 by_] 59) := ⟨_, rfl⟩
  have AX : Below w.heap.size w X := by rw [hX]; exact (Below.refl _ _).alloc (Nat.le_refl _) _
  have hnX : X.heap[w.heap.size]? = some (.cells #[.int .i64 k, .int .i64 at_, .int .i64 by_] 59 (0, 0)) := by rw [hX]; exact heap_new w _
  have x0 : X.cell? ⟨w.heap.size, 0, none⟩ = some (.int .i64 k) := by simp [World.cell?, hnX]
  have x1 : X.cell? ⟨w.heap.size, 1, none⟩ = some (.int .i64 at_) := by simp [World.cell?, hnX]
  have x2 : X.cell? ⟨w.heap.size, 2, none⟩ = some (.int .i64 by_) := by simp [World.cell?, hnX]
  have tyX : Tyd X w.heap.size 59 := ⟨_, _, hnX⟩
  have RX := hR.later (fun i hi => AX.block i hi)
  have FX : Fz B B1 w X := Fz.of AX
  obtain ⟨N, hN⟩ : ∃ N, N = ys.length := ⟨_, rfl⟩
  have hcN : N ≤ cL := by
    have hr := hR.rL
    rcases hr.2 with ⟨h1, _⟩ | ⟨g', cap', cur, h1, _, _, h4, _⟩
    · cases h1
    · simp only [Value.slice.injEq] at h1
      have l1 : (ys ++ [endE]).length = ys.length + 1 := by simp
      rw [l1] at h4
      have := h1.2.2
      omega
  have HKeep : Hid (BentP B B1 g us (.slice (some ⟨gL, 0, none⟩) M cL) vW ys.length w X) := BentP.keep rfl RX FX hSh hBy
  by_cases h0 : N = 0
  · rw [← hN] at HKeep ⊢
    have HX := Lib.hid hX
    subst h0
    clear hX AX hnX tyX RX FX hR hSh hBy hU hN x0 x1 x2
    go_enter Tryz.func28, Tryz.ntmps28
    go_upto_region 1 with fail
    rw [← HX.out]
    go_wp2
    refine bodyPost_ret (v := .tuple #[]) (by first | rfl | kernel_rfl) rfl ?_
    exact ⟨rfl, HKeep.out⟩
  · have q0 : ((N : Int) == 0) = false := by simp; omega
    have HSp := Lib.hid (spot3_any at_ N (by omega) (by omega) ha X)
    have HPt : Hid (∀ (s : Nat) (y : EntD), ys[s]? = some y → True) := fun _ _ _ => trivial
    have HRX := Lib.hid RX
    have HYs : Hid (∀ s, s < N → ∃ y, ys[s]? = some y) := fun s hs => ⟨ys[s]'(by omega), List.getElem?_eq_getElem _⟩
    have HM := Lib.hid hM
    have HSh := Lib.hid hSh
    have HBy := Lib.hid hBy
    have HU := Lib.hid hU
    have HTy := Lib.hid tyX
    have HFX := Lib.hid FX
    have HX := Lib.hid hX
    have HA := Lib.hid AX
    have HN := Lib.hid hN
    rw [← hN] at HKeep ⊢
    clear hX AX hnX tyX RX FX hR hSh hBy hU hN h0 hM HPt
    go_enter Tryz.func28, Tryz.ntmps28
    go_upto_region 1 with fail
    rw [← HX.out]
    clear HX
    go_wp2_with fail
    refine Calls.mono HSp.out ?_
    rintro r wz ⟨⟨s, hs, rfl⟩, rfl⟩
    have hs0 : (0 : Int) ≤ (s : Int) := by omega
    have hsN : (s : Int) < (N : Int) := by omega
    obtain ⟨y, hy⟩ := HYs.out s hs
    have HY := Lib.hid hy
    have HYm := Lib.hid (List.mem_of_getElem? hy)
    obtain ⟨hcl, hfz⟩ := HRX.out.zs HM.out hy
    have y0 := hcl 0 _ rfl
    have y1 := hcl 1 _ rfl
    have y2 := hcl 2 _ rfl
    have y3 := hcl 3 _ rfl
    have y4 := hcl 4 _ rfl
    have y5 := hcl 5 _ rfl
    have y6 := hcl 6 _ rfl
    simp only [Nat.add_zero] at y0
    have f1 := hfz (s * 7 + 1)
    have f3 := hfz (s * 7 + 3)
    have f4 := hfz (s * 7 + 4)
    have f5 := hfz (s * 7 + 5)
    obtain ⟨ex, ey, eu1, eu2, eu3, p1, p2, p3, p4, p5, p6⟩ := HRX.out.el s (by rw [← HN.out]; exact hs)
    have psl : s < ys.length := by rw [← HN.out]; exact hs
    rw [List.getElem?_append_left psl, hy] at p2
    rw [hy] at p1
    simp only [Option.some.injEq] at p1 p2
    subst p1 p2
    obtain ⟨g1, c1, er, eur⟩ := p6.r.form
    obtain ⟨g2, c2, eq, euq⟩ := p6.q.form
    obtain ⟨g3, c3, ev, euv⟩ := p6.v.form
    have HP6 := Lib.hid p6
    have HP3 := Lib.hid (And.intro p3 (And.intro p4 p5))
    have HEu := Lib.hid (And.intro eur (And.intro euq euv))
    have HEr := Lib.hid (And.intro er (And.intro eq ev))
    rw [er] at y0
    rw [eq] at y2
    rw [ev] at y6
    clear hy hcl hfz p3 p4 p5 p6 er eq ev eur euq euv psl
    by_cases k0 : k = 0
    · have q0 : (k == 0) = true := by simpa using k0
      have HPu : Hid (Calls Tryz.prog 66 #[.slice (some ⟨g1, 0, none⟩) y.row.length c1, .int .i64 by_] wz.drew fun e w' => e = .returned (.tuple #[]) ∧ BentP B B1 g us (.slice (some ⟨gL, 0, none⟩) M cL) vW N w w' ∧ (w'.cell? ⟨gL, s * 7, none⟩ = some (.slice (some ⟨g1, 0, none⟩) y.row.length c1) ∧ w'.cell? ⟨w.heap.size, 2, none⟩ = some (.int .i64 by_))) := by
        have hh := HSh.out y HYm.out
        have hb := HBy.out y HYm.out
        have own := HP6.out.r.own
        have hgb : (eu1).ownBlock = some g1 := by rw [HEu.out.1]; rfl
        have rd : Rd wz.drew (.slice (some ⟨g1, 0, none⟩) y.row.length c1) y.row := by have := (HP6.out.r.rd hb.1.1 hh.1); rw [HEr.out.1] at this; exact this.later (Below.refl _ _).drew
        have ty := row_tyd own.2 hgb
        have fz : ∀ k, wz.drew.frozen? ⟨g1, k, none⟩ = false := fun k => by
          rcases own.2.2 with ⟨z1, z2⟩ | ⟨g', cap', cur, z1, z2, z3, _⟩
          · omega
          · rw [z1] at hgb
            simp only [Value.ownBlock, Option.some.injEq] at hgb
            subst hgb
            show wz.frozen? _ = false
            simp [World.frozen?, z3]
        refine Calls.mono (put3_any by_ rd fz hb00) ?_
        have tyL := row_tyd HRX.out.rL (g := gL) rfl
        have fd : Fz B B1 w wz.drew := HFX.out.trans (Fz.of (Below.refl _ _).drew)
        have RD : Rm B wz.drew g ys ys.length (ys ++ [endE]) us (.slice (some ⟨gL, 0, none⟩) M cL) vW := HRX.out.later (fun i hi => rfl)
        have s0 : (wz.drew.cell? ⟨gL, s * 7, none⟩ = some (.slice (some ⟨g1, 0, none⟩) y.row.length c1) ∧ wz.drew.cell? ⟨w.heap.size, 2, none⟩ = some (.int .i64 by_)) := ⟨y0, x2⟩
        rintro e w' ⟨rfl, h | ⟨kx, vx, hk, hv, h⟩⟩
        · subst h
          exact ⟨rfl, by rw [HN.out]; exact BentP.keep rfl RD fd HSh.out HBy.out, s0⟩
        · subst h
          refine ⟨rfl, ?_, ?_, ?_⟩
          · rw [HN.out]
            exact (Rm.setR RD HY.out HEr.out.1 hk hv (HU.out _ (List.mem_of_getElem? HP3.out.1) _ hgb) HSh.out HBy.out).from fd
          · rw [World.cell?_setCell_other _ _ _ _ (fun z => tyL.ne ty (by decide) (by have := congrArg Addr.block z; exact this.symm))]; exact s0.1
          · rw [World.cell?_setCell_other _ _ _ _ (fun z => HTy.out.ne ty (by decide) (by have := congrArg Addr.block z; exact this.symm))]; exact s0.2
      have s0 : (wz.drew.cell? ⟨gL, s * 7, none⟩ = some (.slice (some ⟨g1, 0, none⟩) y.row.length c1) ∧ wz.drew.cell? ⟨w.heap.size, 2, none⟩ = some (.int .i64 by_)) := ⟨y0, x2⟩
      go_wp2_with fail
      go_region_held3 (fun Z => Z.cell? ⟨gL, s * 7, none⟩ = some (.slice (some ⟨g1, 0, none⟩) y.row.length c1) ∧ Z.cell? ⟨w.heap.size, 2, none⟩ = some (.int .i64 by_)) (first | exact hs5 | exact s0) ((go_at_call 66; refine Calls.mono HPu.out ?_; rintro e1 w5 ⟨rfl, hb5, hs5⟩))
      have HB5 := Lib.hid hb5
      clear hb5 hs5 s0
      go_wp2
      first | go_ret | go_end0
      exact ⟨rfl, HB5.out⟩
    · have q0 : (k == 0) = false := by simpa using k0
      by_cases k1 : k = 1
      · have q1 : (k == 1) = true := by simpa using k1
        have HPu : Hid (Calls Tryz.prog 66 #[.slice (some ⟨g2, 0, none⟩) y.qual.length c2, .int .i64 by_] wz.drew fun e w' => e = .returned (.tuple #[]) ∧ BentP B B1 g us (.slice (some ⟨gL, 0, none⟩) M cL) vW N w w' ∧ (w'.cell? ⟨gL, s * 7 + 2, none⟩ = some (.slice (some ⟨g2, 0, none⟩) y.qual.length c2) ∧ w'.cell? ⟨w.heap.size, 2, none⟩ = some (.int .i64 by_))) := by
          have hh := HSh.out y HYm.out
          have hb := HBy.out y HYm.out
          have own := HP6.out.q.own
          have hgb : (eu2).ownBlock = some g2 := by rw [HEu.out.2.1]; rfl
          have rd : Rd wz.drew (.slice (some ⟨g2, 0, none⟩) y.qual.length c2) y.qual := by have := (HP6.out.q.rd hb.1.2.1 hh.2.1); rw [HEr.out.2.1] at this; exact this.later (Below.refl _ _).drew
          have ty := row_tyd own.2 hgb
          have fz : ∀ k, wz.drew.frozen? ⟨g2, k, none⟩ = false := fun k => by
            rcases own.2.2 with ⟨z1, z2⟩ | ⟨g', cap', cur, z1, z2, z3, _⟩
            · omega
            · rw [z1] at hgb
              simp only [Value.ownBlock, Option.some.injEq] at hgb
              subst hgb
              show wz.frozen? _ = false
              simp [World.frozen?, z3]
          refine Calls.mono (put3_any by_ rd fz hb00) ?_
          have tyL := row_tyd HRX.out.rL (g := gL) rfl
          have fd : Fz B B1 w wz.drew := HFX.out.trans (Fz.of (Below.refl _ _).drew)
          have RD : Rm B wz.drew g ys ys.length (ys ++ [endE]) us (.slice (some ⟨gL, 0, none⟩) M cL) vW := HRX.out.later (fun i hi => rfl)
          have s0 : (wz.drew.cell? ⟨gL, s * 7 + 2, none⟩ = some (.slice (some ⟨g2, 0, none⟩) y.qual.length c2) ∧ wz.drew.cell? ⟨w.heap.size, 2, none⟩ = some (.int .i64 by_)) := ⟨y2, x2⟩
          rintro e w' ⟨rfl, h | ⟨kx, vx, hk, hv, h⟩⟩
          · subst h
            exact ⟨rfl, by rw [HN.out]; exact BentP.keep rfl RD fd HSh.out HBy.out, s0⟩
          · subst h
            refine ⟨rfl, ?_, ?_, ?_⟩
            · rw [HN.out]
              exact (Rm.setQ RD HY.out HEr.out.2.1 hk hv (HU.out _ (List.mem_of_getElem? HP3.out.2.1) _ hgb) HSh.out HBy.out).from fd
            · rw [World.cell?_setCell_other _ _ _ _ (fun z => tyL.ne ty (by decide) (by have := congrArg Addr.block z; exact this.symm))]; exact s0.1
            · rw [World.cell?_setCell_other _ _ _ _ (fun z => HTy.out.ne ty (by decide) (by have := congrArg Addr.block z; exact this.symm))]; exact s0.2
        have s0 : (wz.drew.cell? ⟨gL, s * 7 + 2, none⟩ = some (.slice (some ⟨g2, 0, none⟩) y.qual.length c2) ∧ wz.drew.cell? ⟨w.heap.size, 2, none⟩ = some (.int .i64 by_)) := ⟨y2, x2⟩
        go_wp2_with fail
        go_region_held3 (fun Z => Z.cell? ⟨gL, s * 7 + 2, none⟩ = some (.slice (some ⟨g2, 0, none⟩) y.qual.length c2) ∧ Z.cell? ⟨w.heap.size, 2, none⟩ = some (.int .i64 by_)) (first | exact hs5 | exact s0) ((go_at_call 66; refine Calls.mono HPu.out ?_; rintro e1 w5 ⟨rfl, hb5, hs5⟩))
        have HB5 := Lib.hid hb5
        clear hb5 hs5 s0
        go_wp2
        first | go_ret | go_end0
        exact ⟨rfl, HB5.out⟩
      · have q1 : (k == 1) = false := by simpa using k1
        by_cases k2 : k = 2
        · have q2 : (k == 2) = true := by simpa using k2
          have HPu : Hid (Calls Tryz.prog 66 #[.slice (some ⟨g3, 0, none⟩) y.val.length c3, .int .i64 by_] wz.drew fun e w' => e = .returned (.tuple #[]) ∧ BentP B B1 g us (.slice (some ⟨gL, 0, none⟩) M cL) vW N w w' ∧ (w'.cell? ⟨gL, s * 7 + 6, none⟩ = some (.slice (some ⟨g3, 0, none⟩) y.val.length c3) ∧ w'.cell? ⟨w.heap.size, 2, none⟩ = some (.int .i64 by_))) := by
            have hh := HSh.out y HYm.out
            have hb := HBy.out y HYm.out
            have own := HP6.out.v.own
            have hgb : (eu3).ownBlock = some g3 := by rw [HEu.out.2.2]; rfl
            have rd : Rd wz.drew (.slice (some ⟨g3, 0, none⟩) y.val.length c3) y.val := by have := (HP6.out.v.rd hb.1.2.2 hh.2.2); rw [HEr.out.2.2] at this; exact this.later (Below.refl _ _).drew
            have ty := row_tyd own.2 hgb
            have fz : ∀ k, wz.drew.frozen? ⟨g3, k, none⟩ = false := fun k => by
              rcases own.2.2 with ⟨z1, z2⟩ | ⟨g', cap', cur, z1, z2, z3, _⟩
              · omega
              · rw [z1] at hgb
                simp only [Value.ownBlock, Option.some.injEq] at hgb
                subst hgb
                show wz.frozen? _ = false
                simp [World.frozen?, z3]
            refine Calls.mono (put3_any by_ rd fz hb00) ?_
            have tyL := row_tyd HRX.out.rL (g := gL) rfl
            have fd : Fz B B1 w wz.drew := HFX.out.trans (Fz.of (Below.refl _ _).drew)
            have RD : Rm B wz.drew g ys ys.length (ys ++ [endE]) us (.slice (some ⟨gL, 0, none⟩) M cL) vW := HRX.out.later (fun i hi => rfl)
            have s0 : (wz.drew.cell? ⟨gL, s * 7 + 6, none⟩ = some (.slice (some ⟨g3, 0, none⟩) y.val.length c3) ∧ wz.drew.cell? ⟨w.heap.size, 2, none⟩ = some (.int .i64 by_)) := ⟨y6, x2⟩
            rintro e w' ⟨rfl, h | ⟨kx, vx, hk, hv, h⟩⟩
            · subst h
              exact ⟨rfl, by rw [HN.out]; exact BentP.keep rfl RD fd HSh.out HBy.out, s0⟩
            · subst h
              refine ⟨rfl, ?_, ?_, ?_⟩
              · rw [HN.out]
                exact (Rm.setV RD HY.out HEr.out.2.2 hk hv (HU.out _ (List.mem_of_getElem? HP3.out.2.2) _ hgb) HSh.out HBy.out).from fd
              · rw [World.cell?_setCell_other _ _ _ _ (fun z => tyL.ne ty (by decide) (by have := congrArg Addr.block z; exact this.symm))]; exact s0.1
              · rw [World.cell?_setCell_other _ _ _ _ (fun z => HTy.out.ne ty (by decide) (by have := congrArg Addr.block z; exact this.symm))]; exact s0.2
          have s0 : (wz.drew.cell? ⟨gL, s * 7 + 6, none⟩ = some (.slice (some ⟨g3, 0, none⟩) y.val.length c3) ∧ wz.drew.cell? ⟨w.heap.size, 2, none⟩ = some (.int .i64 by_)) := ⟨y6, x2⟩
          go_wp2_with fail
          go_region_held3 (fun Z => Z.cell? ⟨gL, s * 7 + 6, none⟩ = some (.slice (some ⟨g3, 0, none⟩) y.val.length c3) ∧ Z.cell? ⟨w.heap.size, 2, none⟩ = some (.int .i64 by_)) (first | exact hs5 | exact s0) ((go_at_call 66; refine Calls.mono HPu.out ?_; rintro e1 w5 ⟨rfl, hb5, hs5⟩))
          have HB5 := Lib.hid hb5
          clear hb5 hs5 s0
          go_wp2
          first | go_ret | go_end0
          exact ⟨rfl, HB5.out⟩
        · have q2 : (k == 2) = false := by simpa using k2
          by_cases k3 : k = 3
          · have q3 : (k == 3) = true := by simpa using k3
            have HSt : Hid (BentP B B1 g us (.slice (some ⟨gL, 0, none⟩) M cL) vW N w (wz.setCell ⟨gL, s * 7 + 3, none⟩ (.int .i64 by_))) := by
              have := (HRX.out.setF (B1 := B1) (c := 3) (v := .int .i64 by_) (y' := { y with ts := by_ }) HM.out HY.out (by decide) rfl ⟨rfl, rfl, rfl⟩ ⟨rfl, rfl, rfl⟩ hB1 HSh.out HBy.out).from HFX.out
              rw [← HN.out] at this
              exact this
            go_wp2
            first | go_ret | go_end0
            exact ⟨rfl, HSt.out⟩
          · have q3 : (k == 3) = false := by simpa using k3
            by_cases k4 : k = 4
            · have q4 : (k == 4) = true := by simpa using k4
              have HSt : Hid (BentP B B1 g us (.slice (some ⟨gL, 0, none⟩) M cL) vW N w (wz.setCell ⟨gL, s * 7 + 4, none⟩ (.int .i64 by_))) := by
                have := (HRX.out.setF (B1 := B1) (c := 4) (v := .int .i64 by_) (y' := { y with seq := by_ }) HM.out HY.out (by decide) rfl ⟨rfl, rfl, rfl⟩ ⟨rfl, rfl, rfl⟩ hB1 HSh.out HBy.out).from HFX.out
                rw [← HN.out] at this
                exact this
              go_wp2
              first | go_ret | go_end0
              exact ⟨rfl, HSt.out⟩
            · have q4 : (k == 4) = false := by simpa using k4
              by_cases k5 : k = 5
              · have q5 : (k == 5) = true := by simpa using k5
                have HSt : Hid (BentP B B1 g us (.slice (some ⟨gL, 0, none⟩) M cL) vW N w (wz.setCell ⟨gL, s * 7 + 5, none⟩ (.int .i64 by_))) := by
                  have := (HRX.out.setF (B1 := B1) (c := 5) (v := .int .i64 by_) (y' := { y with kind := by_ }) HM.out HY.out (by decide) rfl ⟨rfl, rfl, rfl⟩ ⟨rfl, rfl, rfl⟩ hB1 HSh.out HBy.out).from HFX.out
                  rw [← HN.out] at this
                  exact this
                go_wp2
                first | go_ret | go_end0
                exact ⟨rfl, HSt.out⟩
              · have q5 : (k == 5) = false := by simpa using k5
                by_cases k6 : k = 6
                · have q6 : (k == 6) = true := by simpa using k6
                  have HSt : Hid (BentP B B1 g us (.slice (some ⟨gL, 0, none⟩) M cL) vW N w (wz.setCell ⟨gL, s * 7 + 1, none⟩ (.int .i64 by_))) := by
                    have := (HRX.out.setF (B1 := B1) (c := 1) (v := .int .i64 by_) (y' := { y with fam := by_ }) HM.out HY.out (by decide) rfl ⟨rfl, rfl, rfl⟩ ⟨rfl, rfl, rfl⟩ hB1 HSh.out HBy.out).from HFX.out
                    rw [← HN.out] at this
                    exact this
                  go_wp2
                  first | go_ret | go_end0
                  exact ⟨rfl, HSt.out⟩
                · have q6 : (k == 6) = false := by simpa using k6
                  go_wp2
                  first | go_ret | go_end0
                  exact ⟨rfl, HKeep.out⟩
end Go.Proofs.YtganmnckdmkcbaaGreat

namespace Go.Proofs.YtganmnckdmkcbaaGreat
open Go.RowKit Go.Maps
set_option linter.unusedVariables false

set_option maxRecDepth 100000 in
set_option maxHeartbeats 16000000 in
theorem still_any {W1 w : World} {B g : Nat} {l ys : List EntD} {us : List Value} {vL vW : Value} {a : Option Addr} {cap : Nat} (hR : Rm B W1 g l l.length (ys ++ [endE]) us vL vW) (hyl : ys.length = l.length) (hb : Below W1.heap.size W1 w) (hl : RdL3 w a cap l) (hn : l.length ≤ 1353245080300) (hs : ∀ x ∈ l, ShrtW x) :
    Calls Tryz.prog 27 #[.pointer (some ⟨g, 0, none⟩), .slice a l.length cap] w fun r w' => r = .returned (.bool true) ∧ Below w.heap.size w w' := by
  obtain ⟨gL, cL, rfl, hcL, rL, cE, bL, gB, gl⟩ := rm_list hR hyl hl.by hs
  obtain ⟨gW, aW, cW, rfl, hW1, hW2, hW3⟩ := rm_wides hR
  have hbl := rm_bl hR hs
  have hz := rm_zip hR hyl
  obtain ⟨N, hN⟩ : ∃ N, N = l.length := ⟨_, rfl⟩
  obtain ⟨M, hM⟩ : ∃ M, M = l.length + 1 := ⟨_, rfl⟩
  obtain ⟨T, hT⟩ : ∃ T, T = 3 * l.length := ⟨_, rfl⟩
  have hul := hR.ul
  have HSm := Lib.hid (sameAll_ok (rL.later hb) hl hz (by rw [hyl]; exact hn))
  rw [hyl] at HSm
  have HSw : Hid (∀ Z, Below w.heap.size w Z → Sw B W1.heap.size w Z g gL gW (.slice (some ⟨gL, 0, none⟩) (l.length + 1) cL) (.slice aW (3 * l.length) cW) us (l.length + 1)) := fun Z b => by
    have bb := hb.trans (b.mono hb.size)
    refine ⟨(bb.block g hR.box.tyd.lt).trans hR.box, ⟨hR.gB, hR.box.tyd.lt⟩, fun i u hu => ?_, fun hne => ?_, fun u hu => ?_, ?_, ⟨gB, gl⟩, Fz.of b⟩
    · have := hW2 i u hu
      rw [bb.cell (World.block_lt_of_cell? _ _ this)]
      exact this
    · obtain ⟨c, f, q⟩ := (hW1 hne).2
      exact ⟨c, f, (bb.block _ (Array.getElem?_eq_some_iff.1 q).1).trans q⟩
    · obtain ⟨gb, n, c, q1, q2, q3, q4, q5, q6⟩ := hbl u hu
      obtain ⟨cur, k1, k2⟩ := q2
      exact ⟨gb, n, c, q1, ⟨cur, (bb.block gb q4).trans k1, k2⟩, q3, q4, q5, q6⟩
    · obtain ⟨cur, k1, k2⟩ := bL
      exact ⟨cur, (bb.block gL gl).trans k1, k2⟩
  have HRz : Hid (∀ Z, Below w.heap.size w Z → Rm B Z g l l.length (ys ++ [endE]) us (.slice (some ⟨gL, 0, none⟩) (l.length + 1) cL) (.slice aW (3 * l.length) cW)) := fun Z b => hR.later (fun i hi => (hb.trans (b.mono hb.size)).block i hi)
  have HL : Hid (∀ Z, Below w.heap.size w Z → RdL3 Z a cap l) := fun Z b => hl.later b
  have HBy := Lib.hid hl.by
  have HSh := Lib.hid hs
  have cE2 : w.cell? ⟨gL, l.length * 7 + 1, none⟩ = some (.int .i64 (-9)) := by rw [hb.cell (World.block_lt_of_cell? _ _ cE)]; exact cE
  have c0 := (HSw.out w (Below.refl _ _)).box.c0
  have hc := hl.cap
  have HUl : Hid (us.length = T) := by unfold Hid; rw [hul, hT]
  have HW1 : Hid (us ≠ [] → aW = some ⟨gW, 0, none⟩) := fun z => (hW1 z).1
  have HcW : Hid (3 * l.length ≤ cW) := hW3
  rw [← hM] at c0 HSw hcL HRz
  rw [← hT] at HSw HRz
  rw [← hN] at hn hc cE2 HSm ⊢
  have HN := Lib.hid hN
  have HT : Hid (T = 3 * N) := by unfold Hid; rw [hT, hN]
  have HMm : Hid (M = N + 1) := by unfold Hid; rw [hM, hN]
  have qM : ((M : Int) != (N : Int) + 1) = false := by have := HMm.out; simp; omega
  have qM2 : (N : Int) < (M : Int) := by have := HMm.out; omega
  have qMc : (N : Int) ≤ (cL : Int) := by have := HMm.out; omega
  have N0 : (0 : Int) ≤ (N : Int) := by omega
  have hTb : T ≤ 4059735240900 := by have := HT.out; omega
  clear hR hyl hb hl hs rL cE bL hW1 hW2 hW3 hbl hz hul hN hM hT
  go_enter Tryz.func27, Tryz.ntmps27
  go_wp2_with fail
  refine Calls.mono HSm.out ?_
  rintro e w1 ⟨rfl, b1⟩
  have B1 := Lib.hid b1
  clear b1 HSm cE2 c0
  go_wp2
  go_loopw [6] (fun i wr => ∃ t : Nat, t ≤ N ∧ i = .int .i64 (t : Int) ∧ Hid (Below w.heap.size w wr)) (fun i _ => N - (intOf i).toNat)
  case atStart => exact ⟨0, Nat.zero_le _, rfl, B1.out⟩
  case round =>
    obtain ⟨t, ht, rfl, HBw⟩ := hrel
    have t0 : (0 : Int) ≤ (t : Int) := by omega
    by_cases hlt : t < N
    · have hlt2 : (t : Int) < (N : Int) := by omega
      obtain ⟨k0, hk0⟩ : ∃ k, k = 3 * t := ⟨_, rfl⟩
      obtain ⟨k1, hk1⟩ : ∃ k, k = 3 * t + 1 := ⟨_, rfl⟩
      obtain ⟨k2, hk2⟩ : ∃ k, k = 3 * t + 2 := ⟨_, rfl⟩
      obtain ⟨x, y, u1, u2, u3, p1, p2, p3, p4, p5, p6⟩ := (HRz.out _ (Below.refl _ _)).el t (by rw [← HN.out]; exact hlt)
      have hne : us ≠ [] := fun z => by rw [z] at p3; simp at p3
      obtain rfl := HW1.out hne
      rw [← hk0] at p3
      rw [← hk1] at p4
      rw [← hk2] at p5
      obtain ⟨bl, ol, rfl⟩ : ∃ b off, a = some ⟨b, off, none⟩ := by
        rcases (HL.out _ (Below.refl _ _)).at_ with h0 | ⟨b, off, q, _⟩
        · rw [h0] at p1; simp at p1
        · exact ⟨b, off, q⟩
      have xm := List.mem_of_getElem? p1
      have hok := (HL.out _ (Below.refl _ _)).ok x xm
      obtain ⟨xr, xf, xq, xt, xs, xk, xv, row, qual, val⟩ := x
      obtain ⟨_, ar, cr, er, -⟩ := id hok.1
      obtain ⟨_, aq, cq, eq, -⟩ := id hok.2.1
      obtain ⟨_, av, cv, ev, -⟩ := id hok.2.2
      simp only at er eq ev
      subst er eq ev
      obtain ⟨g1, c1, -, eu1⟩ := p6.r.form
      obtain ⟨g2, c2, -, eu2⟩ := p6.q.form
      obtain ⟨g3, c3, -, eu3⟩ := p6.v.form
      simp only at eu1 eu2 eu3
      subst eu1 eu2 eu3
      have HK : Hid (∀ Z, Below w.heap.size w Z → (Calls Tryz.prog 64 #[.slice (some ⟨g1, 0, none⟩) (row.length + 5) c1, .slice ar row.length cr] Z fun e w' => e = .returned (.bool true) ∧ Below Z.heap.size Z w') ∧ (Calls Tryz.prog 64 #[.slice (some ⟨g2, 0, none⟩) (qual.length + 5) c2, .slice aq qual.length cq] Z fun e w' => e = .returned (.bool true) ∧ Below Z.heap.size Z w') ∧ (Calls Tryz.prog 64 #[.slice (some ⟨g3, 0, none⟩) (val.length + 5) c3, .slice av val.length cv] Z fun e w' => e = .returned (.bool true) ∧ Below Z.heap.size Z w')) := fun Z b => by
        have ok := hok.later b
        have by_ := HBy.out _ (List.mem_map_of_mem xm)
        have sh := HSh.out _ xm
        have kk : ∀ i, i < w.heap.size → Z.heap[i]? = w.heap[i]? := fun i hi => b.block i hi
        have r1 := (p6.r.keep (fun g hg => kk g (p6.r.own.2.lt g hg).2)).rdu by_.1.1 sh.1
        have r2 := (p6.q.keep (fun g hg => kk g (p6.q.own.2.lt g hg).2)).rdu by_.1.2.1 sh.2.1
        have r3 := (p6.v.keep (fun g hg => kk g (p6.v.own.2.lt g hg).2)).rdu by_.1.2.2 sh.2.2
        exact ⟨kept3_any r1 ok.1, kept3_any r2 ok.2.1, kept3_any r3 ok.2.2⟩
      obtain ⟨n1, hn1⟩ : ∃ n, n = row.length := ⟨_, rfl⟩
      obtain ⟨n2, hn2⟩ : ∃ n, n = qual.length := ⟨_, rfl⟩
      obtain ⟨n3, hn3⟩ : ∃ n, n = val.length := ⟨_, rfl⟩
      have HS : Hid (∀ Z, Below w.heap.size w Z → Z.cell? ⟨g, 1, none⟩ = some (.slice (some ⟨gW, 0, none⟩) T cW) ∧ Z.cell? ⟨gW, k0, none⟩ = some (.slice (some ⟨g1, 0, none⟩) (n1 + 5) c1) ∧ Z.cell? ⟨gW, k1, none⟩ = some (.slice (some ⟨g2, 0, none⟩) (n2 + 5) c2) ∧ Z.cell? ⟨gW, k2, none⟩ = some (.slice (some ⟨g3, 0, none⟩) (n3 + 5) c3) ∧ Z.cell? ⟨bl, ol + t * 7, none⟩ = some (.slice ar n1 cr) ∧ Z.cell? ⟨bl, ol + t * 7 + 2, none⟩ = some (.slice aq n2 cq) ∧ Z.cell? ⟨bl, ol + t * 7 + 6, none⟩ = some (.slice av n3 cv)) := fun Z b => by
        have cx := (HL.out Z b).cells (Below.refl _ _) p1
        have sw := HSw.out Z b
        rw [hn1, hn2, hn3]
        exact ⟨sw.box.c1, sw.cW _ _ p3, sw.cW _ _ p4, sw.cW _ _ p5, by have := cx 0 _ rfl; simpa using this, cx 2 _ rfl, cx 6 _ rfl⟩
      rw [← hn1, ← hn2, ← hn3] at HK
      have m0 : IntKind.i64.wrap (3 * (t : Int)) = (k0 : Int) := by simp [IntKind.wrap, IntKind.bits, IntKind.signed]; omega
      have m1 : IntKind.i64.wrap ((k0 : Int) + 1) = (k1 : Int) := by simp [IntKind.wrap, IntKind.bits, IntKind.signed]; omega
      have m2 : IntKind.i64.wrap ((k0 : Int) + 2) = (k2 : Int) := by simp [IntKind.wrap, IntKind.bits, IntKind.signed]; omega
      have hTT := HT.out
      have j0 : (k0 : Int) < (T : Int) := by omega
      have j1 : (k1 : Int) < (T : Int) := by omega
      have j2 : (k2 : Int) < (T : Int) := by omega
      have i0 : (0 : Int) ≤ (k0 : Int) := by omega
      have i1 : (0 : Int) ≤ (k1 : Int) := by omega
      have i2 : (0 : Int) ≤ (k2 : Int) := by omega
      clear hk0 hk1 hk2 p1 p2 p3 p4 p5 p6 hne xm hok hn1 hn2 hn3 hTT
      have D0 : Below w.heap.size w wr.drew := HBw.out.drew
      go_wp2_with fail
      go_region_held3 (fun Z => Z.cell? ⟨g, 1, none⟩ = some (.slice (some ⟨gW, 0, none⟩) T cW) ∧ Z.cell? ⟨gW, k0, none⟩ = some (.slice (some ⟨g1, 0, none⟩) (n1 + 5) c1) ∧ Z.cell? ⟨gW, k1, none⟩ = some (.slice (some ⟨g2, 0, none⟩) (n2 + 5) c2) ∧ Z.cell? ⟨gW, k2, none⟩ = some (.slice (some ⟨g3, 0, none⟩) (n3 + 5) c3) ∧ Z.cell? ⟨bl, ol + t * 7, none⟩ = some (.slice ar n1 cr) ∧ Z.cell? ⟨bl, ol + t * 7 + 2, none⟩ = some (.slice aq n2 cq) ∧ Z.cell? ⟨bl, ol + t * 7 + 6, none⟩ = some (.slice av n3 cv)) (first | exact HS.out _ D3 | exact HS.out _ D2 | exact HS.out _ D1 | exact HS.out _ D0) (first | (have hq := D2; clear hq; (go_at_call 64; refine Calls.mono (HK.out _ D2).2.2 ?_; rintro e1 w5 ⟨rfl, hb1⟩; have D3 := D2.trans (hb1.mono D2.size))) | (have hq := D1; clear hq; (go_at_call 64; refine Calls.mono (HK.out _ D1).2.1 ?_; rintro e1 w5 ⟨rfl, hb1⟩; have D2 := D1.trans (hb1.mono D1.size))) | (go_at_call 64; refine Calls.mono (HK.out _ D0).1 ?_; rintro e1 w5 ⟨rfl, hb1⟩; have D1 := D0.trans (hb1.mono D0.size)))
      have BE := Lib.hid D3
      clear D0 D1 D2 D3
      go_wp2
      go_roundw
      case rel => exact ⟨t + 1, by omega, by go_num, BE.out⟩
      case measure => simp only [intOf]; omega
    · have hge : ¬ (t : Int) < (N : Int) := by omega
      go_wp2
      go_ret
      exact ⟨rfl, HBw.out⟩
end Go.Proofs.YtganmnckdmkcbaaGreat

namespace Go.Proofs.YtganmnckdmkcbaaGreat
open Go.RowKit
set_option linter.unusedVariables false

def ovr (x e : En) : Bool := (decide (x.kind = 5) && decide (x.fam = e.fam) && decide (x.row = e.row)) || (decide (x.kind = e.kind) && mates x e)
def upT (x e : En) : Bool := decide (e.ts < x.ts) || (decide (x.ts = e.ts) && (decide (e.kind < x.kind) || decide (e.seq < x.seq)))
theorem ovr_cover {x e : En} (h4 : 4 ≤ e.kind) (h5 : e.kind ≤ 5) : ovr x e = cover x e := by
  rw [Bool.eq_iff_iff, cover_iff]
  unfold ovr
  simp only [Bool.or_eq_true, Bool.and_eq_true, decide_eq_true_eq, mates_iff]
  constructor
  · rintro (⟨⟨a, b⟩, c⟩ | ⟨k, a, b, c⟩)
    · exact ⟨c, b, .inl a⟩
    · refine ⟨a, b, ?_⟩
      by_cases z : e.kind = 5
      · exact .inl (k.trans z)
      · exact .inr ⟨by omega, z, c⟩
  · rintro ⟨a, b, k | ⟨k, z, c⟩⟩
    · exact .inl ⟨⟨k, b⟩, a⟩
    · exact .inr ⟨by omega, a, b, c⟩
theorem upT_iff {x e : En} : upT x e = true ↔ (e.ts < x.ts ∨ e.ts = x.ts ∧ (e.kind < x.kind ∨ e.seq < x.seq)) := by
  unfold upT
  simp only [Bool.or_eq_true, Bool.and_eq_true, decide_eq_true_eq]
  exact ⟨fun h => h.imp id (fun z => ⟨z.1.symm, z.2⟩), fun h => h.imp id (fun z => ⟨z.1.symm, z.2⟩)⟩
theorem upT_self (e : En) : upT e e = false := by
  cases h : upT e e with
  | false => rfl
  | true => have := upT_iff.1 h; omega
theorem shadow_at {m : List En} {i : Nat} {e : En} (hi : m[i]? = some e) (h4 : 4 ≤ e.kind) (h5 : e.kind ≤ 5) : shadow m e = true ↔ ∃ (k : Nat) (x : En), m[k]? = some x ∧ k ≠ i ∧ ovr x e = true ∧ upT x e = true := by
  rw [shadow_iff]
  constructor
  · rintro ⟨y, hy, c, u⟩
    obtain ⟨k, hk⟩ := List.mem_iff_getElem?.1 hy
    refine ⟨k, y, hk, fun z => ?_, by rw [ovr_cover h4 h5]; exact c, upT_iff.2 u⟩
    rw [z, hi] at hk
    cases hk
    have := upT_self e
    rw [upT_iff.2 u] at this
    cases this
  · rintro ⟨k, x, hk, -, c, u⟩
    exact ⟨x, List.mem_of_getElem? hk, by rw [← ovr_cover h4 h5]; exact c, upT_iff.1 u⟩
theorem shadow_no {m : List En} {i : Nat} {e : En} (hi : m[i]? = some e) (h4 : 4 ≤ e.kind) (h5 : e.kind ≤ 5) (h : ∀ (k : Nat) (x : En), m[k]? = some x → k ≠ i → ovr x e = true → upT x e = false) : shadow m e = false := by
  cases z : shadow m e with
  | false => rfl
  | true =>
    obtain ⟨k, x, hk, hn, c, u⟩ := (shadow_at hi h4 h5).1 z
    rw [h k x hk hn c] at u
    cases u
end Go.Proofs.YtganmnckdmkcbaaGreat

namespace Go.Proofs.YtganmnckdmkcbaaGreat
open Go.RowKit
set_option linter.unusedVariables false

section
variable {fs : List (Int × Int)} {clock : Int}
def fateN (fs : List (Int × Int)) (clock : Int) (major : Bool) (low : Int) (m : List En) (e : En) : Int :=
  if 4 ≤ e.kind then (if shadow m e || (major && decide (e.ts ≤ low)) then 5 else 0)
  else if decidesS m e = false then 1
  else if e.ts ≤ maskOf m e then 2
  else if expS fs clock e then 3
  else if hasPut m e = false then (if major then 5 else 0)
  else if (famAt fs e.fam).1 < above fs clock m e + 1 then 4
  else 0
def fateE (m : List En) (e : En) : En := if 4 ≤ e.kind then e else if hasPut m e = false then e else hk e
theorem fate_ref {m : List En} {major : Bool} {low : Int} {e : En} : fateR fs clock major low m e = if fateN fs clock major low m e = 0 then some (fateE m e) else none := by
  unfold fateR fateN fateE
  by_cases k : 4 ≤ e.kind
  · simp only [if_pos k]
    split <;> simp
  · simp only [if_neg k]
    by_cases d : decidesS m e = false
    · simp only [if_pos d]; simp
    · simp only [if_neg d]
      by_cases t : e.ts ≤ maskOf m e
      · simp only [if_pos t]; simp
      · simp only [if_neg t]
        by_cases x : expS fs clock e = true
        · simp only [if_pos x]; simp
        · simp only [if_neg x]
          by_cases p : hasPut m e = false
          · simp only [if_pos p]
            cases major <;> simp
          · simp only [if_neg p]
            by_cases r : (famAt fs e.fam).1 < above fs clock m e + 1
            · simp only [if_pos r]; simp
            · simp only [if_neg r]; simp
theorem squash_refN {m : List En} {major : Bool} {low : Int} : leftL fs clock m major low = (m.filter fun e => decide (fateN fs clock major low m e = 0)).map (fateE m) := by
  rw [squash_ref]
  have key : ∀ p : List En, p.filterMap (fateR fs clock major low m) = (p.filter fun e => decide (fateN fs clock major low m e = 0)).map (fateE m) := by
    intro p
    induction p with
    | nil => rfl
    | cons x p ih =>
      rw [List.filterMap_cons, fate_ref]
      by_cases z : fateN fs clock major low m x = 0
      · rw [if_pos z, List.filter_cons_of_pos (by simpa using z), List.map_cons, ih]
      · rw [if_neg z, List.filter_cons_of_neg (by simpa using z), ih]
  exact key m
theorem fateN_mark {m : List En} {major : Bool} {low : Int} {e : En} (k : 4 ≤ e.kind) : fateN fs clock major low m e = if shadow m e || (major && decide (e.ts ≤ low)) then 5 else 0 := by unfold fateN; rw [if_pos k]
theorem fateN_ver {m : List En} {major : Bool} {low : Int} {e : En} (k : e.kind ≤ 3) : fateN fs clock major low m e = if decidesS m e = false then 1 else if e.ts ≤ maskOf m e then 2 else if expS fs clock e then 3 else if hasPut m e = false then (if major then 5 else 0) else if (famAt fs e.fam).1 < above fs clock m e + 1 then 4 else 0 := by unfold fateN; rw [if_neg (by omega)]
end
end Go.Proofs.YtganmnckdmkcbaaGreat
