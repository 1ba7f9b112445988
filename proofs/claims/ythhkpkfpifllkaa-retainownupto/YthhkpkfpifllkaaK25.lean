import Derived.Test.YthhkpkfpifllkaaK24
namespace Go.Proofs.Ythhkpkfpifllkaa
open Go.RowKit
set_option linter.unusedVariables false

noncomputable def ordOf (k : Nat) (l : List En) : List En := @dite _ (∃ m, IsOrd k l m) (Classical.propDecidable _) (fun h => Classical.choose h) (fun _ => [])
theorem ordOf_eq {k : Nat} {l m : List En} (h : IsOrd k l m) : ordOf k l = m := by
  have hx : ∃ m, IsOrd k l m := ⟨m, h⟩
  unfold ordOf
  rw [dif_pos hx]
  exact (Classical.choose_spec hx).unique h
def SmE (e : En) : Prop := ByE e ∧ e.row.length ≤ 256 ∧ e.qual.length ≤ 256 ∧ e.val.length ≤ 4096
theorem IsOrd.sm {k : Nat} {l m : List En} (h : IsOrd k l m) (hb : ∀ e ∈ l, ByE e) : ∀ e ∈ m, SmE e := fun e he => by
  have ck := check_zero.1 (h.ck e he)
  simp only [EntD.ofEn] at ck
  refine ⟨hb e ((h.mem e).1 he), ?_, ?_, ?_⟩
  · have := ck.1.1; omega
  · have := ck.1.2.2.1; omega
  · have := ck.1.2.2.2.2.2.2; omega
theorem tld_sm (m : List En) {e : En} (h : SmE e) : SmE (tld m e) := by
  obtain ⟨a1, a2, a3, a4, a5, a6, a7⟩ := tld_eq m e
  unfold SmE
  rw [a1, a3, a6]
  exact ⟨tld_by m h.1, h.2⟩
theorem sm_out {fs : List (Int × Int)} {clock low : Int} {k : Nat} {l m : List En} {major : Bool} (h : IsOrd k l m) (hb : ∀ e ∈ l, ByE e) : ∀ e ∈ outS major low (verdictsS fs clock m), SmE e := by
  rw [out_tld h.ah h.va]
  intro e he
  obtain ⟨x, hx, rfl⟩ := List.mem_map.1 he
  exact tld_sm m (h.sm hb x (List.mem_filter.1 hx).1)
theorem sm_show {fs : List FamD} {clock t n : Int} {l m : List En} (hS : SchemaOk fs) (ho : IsOrd fs.length l m) (hb : ∀ e ∈ l, ByE e) : ∀ e ∈ (showS t n (verdictsS (mt fs) clock m)).2, SmE e := fun e he => by
  have key : ∀ (vs : List Vd) (s : Int × List En), e ∈ (vs.foldl (showStep t n) s).2 → e ∈ s.2 ∨ ∃ v ∈ vs, v.e = e := by
    intro vs
    induction vs with
    | nil => intro s h; exact .inl h
    | cons v vs ih =>
      intro s h
      rw [List.foldl_cons] at h
      rcases ih _ h with q | ⟨u, hu, q⟩
      · unfold showStep at q
        generalize (if v.rank = 1 then (0 : Int) else s.1) = q9 at q
        split at q
        · rcases List.mem_append.1 q with q | q
          · exact .inl q
          · rw [List.mem_singleton] at q
            exact .inr ⟨v, List.mem_cons_self, q.symm⟩
        · exact .inl q
      · exact .inr ⟨u, List.mem_cons_of_mem _ hu, q⟩
  rw [show_five (ho.max hS) ho.ah ho.va] at he
  rcases key _ _ he with q | ⟨v, hv, rfl⟩
  · cases q
  · obtain ⟨e', he', rfl⟩ := List.mem_map.1 hv
    obtain ⟨x, hx, rfl⟩ := List.mem_map.1 he'
    exact tld_sm _ (ho.sm hb x (List.mem_filter.1 hx).1)
theorem Rw.rng {W : World} {N : Nat} {v : Value} {zs : List EntD} {O : Nat → Prop} (h : Rw W N v zs O) : Rw W N v zs (fun i => N ≤ i ∧ i < W.heap.size) :=
  ⟨h.row, h.ents, h.ap, fun k hk => h.row.lt k hk, fun x hx k hk => by
    rcases hk with z | z | z
    · exact (h.ents x hx).row.2.lt k z
    · exact (h.ents x hx).qual.2.lt k z
    · exact (h.ents x hx).val.2.lt k z⟩
structure OwL (Z Z' : World) (n : Nat) (D : List En) (a : Option Addr) (c : Nat) (zs : List EntD) : Prop where
  rw_ : Rw Z' Z.heap.size (.slice a zs.length c) zs (fun i => Z.heap.size ≤ i ∧ i < Z'.heap.size)
  rd : RdL3 Z' a c zs
  dat : zs.map EntD.dat = D
  len : zs.length ≤ n
  sm : ∀ x ∈ zs, SmE x.dat
theorem owL_nil (Z Z' : World) (n : Nat) : OwL Z Z' n [] none 0 [] := ⟨Rw.nil _ _ _, ⟨⟨Nat.le_refl _, Nat.zero_le _⟩, .inl rfl, fun x hx => by cases hx⟩, rfl, Nat.zero_le _, fun x hx => by cases hx⟩
theorem owL_of {Z Z' : World} {n : Nat} {D : List En} {v : Value} {zs : List EntD} {O : Nat → Prop} (h : Rw Z' Z.heap.size v zs O) (hd : zs.map EntD.dat = D) (hl : zs.length ≤ n) (hs : ∀ e ∈ D, SmE e) : ∃ a c, v = .slice a zs.length c ∧ OwL Z Z' n D a c zs := by
  have sm : ∀ x ∈ zs, SmE x.dat := fun x hx => hs _ (by rw [← hd]; exact List.mem_map_of_mem hx)
  obtain ⟨a, c, hv, _, hrd⟩ := h.rdl (fun x hx => (sm x hx).1)
  subst hv
  exact ⟨a, c, rfl, h.rng, hrd, hd, hl, sm⟩
section
variable {W : World} {cap fc : Nat} {a fa : Option Addr} {fs : List FamD} {l : List EntD}
noncomputable def dSort (l : List EntD) : List En := if inOrderE chkC l = 0 then ordOf 8 (l.map EntD.dat) else []
theorem own_sort (h0 : RdL3 W a cap l) (hl : l.length ≤ 1353245080300) :
    Calls Try.prog 6 #[.slice a l.length cap] W fun r W' => ∃ (zs : List EntD) (a' : Option Addr) (c' : Nat) (E : Int), r = .returned (.tuple #[.slice a' zs.length c', .int .i64 E]) ∧ OwL W W' l.length (dSort l) a' c' zs ∧ Below W.heap.size W W' := by
  refine Calls.mono (sort_any h0 hl) ?_
  rintro r W' ⟨h1, h2, h3⟩
  by_cases hz : inOrderE chkC l = 0
  · obtain ⟨zs, m, v, O, k1, k2, k3, k4, k5, k6⟩ := h3 hz
    obtain ⟨a', c', hv, ow⟩ := owL_of (n := l.length) k3 k5 k6 (k1.sm h0.by)
    refine ⟨zs, a', c', 0, by rw [k2, hv], ?_, h1⟩
    rw [dSort, if_pos hz, ordOf_eq k1]
    exact ow
  · refine ⟨[], none, 0, _, h2 hz, ?_, h1⟩
    rw [dSort, if_neg hz]
    exact owL_nil _ _ _
noncomputable def dSq (C : Nat) (fs : List FamD) (clock low : Int) (major : Bool) (l : List EntD) : List En := if squashE C fs clock low l = 0 then outS major low (verdictsS (mt fs) clock (ordOf fs.length (l.map EntD.dat))) else []
theorem own_squash (hr : RdF W (.slice fa fs.length fc) fs) (hn : fa = none → fc = 0) (C : Nat) (hC : (C = 0 ↔ SchemaOk fs) ∧ (C = 0 ∨ C = 28)) (clock low : Int) (major : Bool) (h0 : RdL3 W a cap l) (hl : l.length ≤ 1353245080300) :
    Calls Try.prog 9 #[.agg #[.slice fa fs.length fc], .int .i64 clock, .bool major, .int .i64 low, .slice a l.length cap] W fun r W' => ∃ (zs : List EntD) (a' : Option Addr) (c' : Nat) (E : Int), r = .returned (.tuple #[.slice a' zs.length c', .int .i64 E]) ∧ OwL W W' l.length (dSq C fs clock low major l) a' c' zs ∧ Below W.heap.size W W' := by
  refine Calls.mono (squash_all hr hn C hC clock low major h0 hl) ?_
  rintro r W' ⟨h1, h2, h3⟩
  by_cases hz : squashE C fs clock low l = 0
  · obtain ⟨zs, m, v, O, k1, k2, k3, k5, k6⟩ := h3 hz
    obtain ⟨a', c', hv, ow⟩ := owL_of (n := l.length) k3 k5 k6 (sm_out k1 h0.by)
    refine ⟨zs, a', c', 0, by rw [k2, hv], ?_, h1⟩
    rw [dSq, if_pos hz, ordOf_eq k1]
    exact ow
  · refine ⟨[], none, 0, _, h2 hz, ?_, h1⟩
    rw [dSq, if_neg hz]
    exact owL_nil _ _ _
noncomputable def dRd (C : Nat) (fs : List FamD) (clock t n : Int) (l : List EntD) : List En := if readE C fs clock t n l = 0 then (showS t n (verdictsS (mt fs) clock (ordOf fs.length (l.map EntD.dat)))).2 else []
theorem readE_zero {C : Nat} {clock t n : Int} (hz : readE C fs clock t n l = 0) : C = 0 ∧ inOrderE (check3S fs.length) l = 0 := by
  unfold readE at hz
  by_cases y : readerS C clock t n = 0
  · rw [if_neg (by simpa using y)] at hz
    refine ⟨?_, hz⟩
    unfold readerS at y
    by_cases b : boundsS C [clock, t] = 0
    · unfold boundsS at b
      by_cases c : C = 0
      · exact c
      · rw [if_pos c] at b; omega
    · rw [if_pos b] at y; exact absurd y b
  · rw [if_pos y] at hz; exact absurd hz y
theorem own_read_of {W' : World} {clock t n : Int} (C : Nat) (hC : (C = 0 ↔ SchemaOk fs) ∧ (C = 0 ∨ C = 28)) (h0 : RdL3 W a cap l) (hz : readE C fs clock t n l = 0) {xs ys zs : List EntD} {v : Value} {O : Nat → Prop} (k1 : onceS l = some xs) (k2 : ys.Perm xs) (k3 : ys.Pairwise fun x y => compareS x y ≤ 0) (k5 : Rw W' W.heap.size v zs O) (k6 : zs.map EntD.dat = (showS t n (verdictsS (mt fs) clock (ys.map EntD.dat))).2) : ∃ a' c', v = .slice a' zs.length c' ∧ OwL W W' l.length (dRd C fs clock t n l) a' c' zs := by
  obtain ⟨hc0, hi⟩ := readE_zero hz
  have ho := isOrd_of hi k1 k2 k3
  rw [dRd, if_pos hz, ordOf_eq ho]
  refine owL_of k5 k6 ?_ (sm_show (hC.1.1 hc0) ho h0.by)
  have e := congrArg List.length k6
  rw [List.length_map] at e
  rw [e]
  refine Nat.le_trans (show_len _ _ _) (Nat.le_trans (verd_len _) ?_)
  rw [List.length_map, k2.length_eq]
  exact onceS_len k1
theorem own_read (hr : RdF W (.slice fa fs.length fc) fs) (hn : fa = none → fc = 0) (C : Nat) (hC : (C = 0 ↔ SchemaOk fs) ∧ (C = 0 ∨ C = 28)) (clock t n : Int) (h0 : RdL3 W a cap l) (hl : l.length ≤ 1353245080300) :
    Calls Try.prog 8 #[.agg #[.slice fa fs.length fc], .int .i64 clock, .int .i64 t, .int .i64 n, .slice a l.length cap] W fun r W' => ∃ (zs : List EntD) (a' : Option Addr) (c' : Nat) (E : Int), r = .returned (.tuple #[.slice a' zs.length c', .int .i64 E]) ∧ OwL W W' l.length (dRd C fs clock t n l) a' c' zs ∧ Below W.heap.size W W' := by
  refine Calls.mono (read_any sort_ok hr hn C hC clock t n h0 hl) ?_
  rintro r W' ⟨h1, h2, h3⟩
  by_cases hz : readE C fs clock t n l = 0
  · obtain ⟨xs, ys, zs, v, O, k1, k2, k3, k4, k5, k6⟩ := h3 hz
    obtain ⟨a', c', hv, ow⟩ := own_read_of C hC h0 hz k1 k2 k3 k5 k6
    exact ⟨zs, a', c', 0, by rw [k4, hv], ow, h1⟩
  · refine ⟨[], none, 0, _, h2 hz, ?_, h1⟩
    rw [dRd, if_neg hz]
    exact owL_nil _ _ _
theorem own_vis (hr : RdF W (.slice fa fs.length fc) fs) (hn : fa = none → fc = 0) (C : Nat) (hC : (C = 0 ↔ SchemaOk fs) ∧ (C = 0 ∨ C = 28)) (clock : Int) (h0 : RdL3 W a cap l) (hl : l.length ≤ 1353245080300) :
    Calls Try.prog 7 #[.agg #[.slice fa fs.length fc], .int .i64 clock, .slice a l.length cap] W fun r W' => ∃ (zs : List EntD) (a' : Option Addr) (c' : Nat) (E : Int), r = .returned (.tuple #[.slice a' zs.length c', .int .i64 E]) ∧ OwL W W' l.length (dRd C fs clock 1099511627776 16 l) a' c' zs ∧ Below W.heap.size W W' := by
  refine Calls.mono (vis_any sort_ok hr hn C hC clock h0 hl) ?_
  rintro r W' ⟨h1, h2, h3⟩
  by_cases hz : readE C fs clock 1099511627776 16 l = 0
  · obtain ⟨xs, ys, zs, v, O, k1, k2, k3, k4, k5, k6⟩ := h3 hz
    obtain ⟨a', c', hv, ow⟩ := own_read_of C hC h0 hz k1 k2 k3 k5 k6
    exact ⟨zs, a', c', 0, by rw [k4, hv], ow, h1⟩
  · refine ⟨[], none, 0, _, h2 hz, ?_, h1⟩
    rw [dRd, if_neg hz]
    exact owL_nil _ _ _
end
end Go.Proofs.Ythhkpkfpifllkaa

namespace Go.Proofs.Ythhkpkfpifllkaa
open Go.RowKit
set_option linter.unusedVariables false

def items (xs : List EntD) : List BI := (xs.map fun x => [BI.mk x.vr x.row.length x.row, BI.mk x.vq x.qual.length x.qual, BI.mk x.vv x.val.length x.val]).flatten
theorem items_cons (x : EntD) (xs : List EntD) : items (x :: xs) = BI.mk x.vr x.row.length x.row :: BI.mk x.vq x.qual.length x.qual :: BI.mk x.vv x.val.length x.val :: items xs := by simp [items]
theorem items_len (xs : List EntD) : (items xs).length = 3 * xs.length := by
  induction xs with
  | nil => rfl
  | cons x xs ih => rw [items_cons]; simp only [List.length_cons, ih]; omega
theorem items_v (xs : List EntD) : (items xs).map BI.v = flat3 xs := by
  induction xs with
  | nil => rfl
  | cons x xs ih => rw [items_cons, List.map_cons, List.map_cons, List.map_cons, ih]; simp [flat3]
theorem items_mem {xs : List EntD} {p : BI} (h : p ∈ items xs) : ∃ x ∈ xs, (p.v = x.vr ∧ p.n = x.row.length ∧ p.l = x.row) ∨ (p.v = x.vq ∧ p.n = x.qual.length ∧ p.l = x.qual) ∨ (p.v = x.vv ∧ p.n = x.val.length ∧ p.l = x.val) := by
  induction xs with
  | nil => cases h
  | cons x xs ih =>
    rw [items_cons] at h
    rcases List.mem_cons.1 h with rfl | h
    · exact ⟨x, List.mem_cons_self, .inl ⟨rfl, rfl, rfl⟩⟩
    rcases List.mem_cons.1 h with rfl | h
    · exact ⟨x, List.mem_cons_self, .inr (.inl ⟨rfl, rfl, rfl⟩)⟩
    rcases List.mem_cons.1 h with rfl | h
    · exact ⟨x, List.mem_cons_self, .inr (.inr ⟨rfl, rfl, rfl⟩)⟩
    obtain ⟨y, hy, z⟩ := ih h
    exact ⟨y, List.mem_cons_of_mem _ hy, z⟩
def ApI (p q : BI) : Prop := ∀ k, p.v.ownBlock = some k → q.v.ownBlock ≠ some k
theorem ApI.symm {p q : BI} (h : ApI p q) : ApI q p := fun k hk z => h k z hk
theorem items_ap {w : World} {N : Nat} {xs : List EntD} (h1 : ∀ x ∈ xs, O3 w N x) (h2 : xs.Pairwise Dsj) : (items xs).Pairwise ApI := by
  induction xs with
  | nil => exact List.Pairwise.nil
  | cons x xs ih =>
    have o := h1 x List.mem_cons_self
    obtain ⟨hd, ht⟩ := List.pairwise_cons.1 h2
    have far : ∀ p ∈ items xs, ∀ k, (x.vr.ownBlock = some k ∨ x.vq.ownBlock = some k ∨ x.vv.ownBlock = some k) → p.v.ownBlock ≠ some k := fun p hp k hk z => by
      obtain ⟨y, hy, c⟩ := items_mem hp
      refine hd y hy k hk ?_
      rcases c with c | c | c
      · exact .inl (c.1 ▸ z)
      · exact .inr (.inl (c.1 ▸ z))
      · exact .inr (.inr (c.1 ▸ z))
    rw [items_cons]
    refine List.pairwise_cons.2 ⟨fun p hp => ?_, List.pairwise_cons.2 ⟨fun p hp => ?_, List.pairwise_cons.2 ⟨fun p hp => ?_, ih (fun y hy => h1 y (List.mem_cons_of_mem _ hy)) ht⟩⟩⟩
    · rcases List.mem_cons.1 hp with rfl | hp
      · exact o.arq
      rcases List.mem_cons.1 hp with rfl | hp
      · exact o.arv
      exact fun k hk => far p hp k (.inl hk)
    · rcases List.mem_cons.1 hp with rfl | hp
      · exact o.aqv
      exact fun k hk => far p hp k (.inr (.inl hk))
    · exact fun k hk => far p hp k (.inr (.inr hk))
theorem pw_at {α : Type} {R : α → α → Prop} (hs : ∀ a b, R a b → R b a) {l : List α} (h : l.Pairwise R) {i j : Nat} {a b : α} (ha : l[i]? = some a) (hb : l[j]? = some b) (hne : i ≠ j) : R a b := by
  obtain ⟨hi, ea⟩ := List.getElem?_eq_some_iff.1 ha
  obtain ⟨hj, eb⟩ := List.getElem?_eq_some_iff.1 hb
  rw [← ea, ← eb]
  by_cases hlt : i < j
  · exact List.pairwise_iff_getElem.1 h i j hi hj hlt
  · exact hs _ _ (List.pairwise_iff_getElem.1 h j i hj hi (by omega))
theorem app_at {α : Type} {l m : List α} {y : α} {i : Nat} (h : (l ++ m)[i]? = some y) : (i < l.length ∧ l[i]? = some y) ∨ (l.length ≤ i ∧ m[i - l.length]? = some y) := by
  by_cases hi : i < l.length
  · rw [List.getElem?_append_left hi] at h; exact .inl ⟨hi, h⟩
  · rw [List.getElem?_append_right (by omega)] at h; exact .inr ⟨by omega, h⟩
section
variable {w w' : World} {N g : Nat} {aE aG aB aH : Option Addr} {cE cG cB cH : Nat} {tl : List Value} {ty : TypeId} {bi : List BI} {ei : List EI} {hs gs : List Value} {O Q : Nat → Prop}
theorem Bq.kr (h : Bq w N g aE aG aB aH cE cG cB cH tl ty bi ei hs gs O) : Kr w N g (.slice aE ei.length cE) (.slice aG gs.length cG) (.slice aB bi.length cB) (.slice aH hs.length cH) tl ty (ei.map EI.v) (bi.map BI.v) :=
  ⟨h.bp.box, by have := h.bp.rE; rw [List.length_map]; exact this, by have := h.bp.rB; rw [List.length_map]; exact this, h.bp.tys.1, h.bp.tys.2.1, h.bp.tys.2.2.1⟩
theorem Bq.kept {al : Option Addr} {cl : Nat} {xs : List EntD} (h : Bq w N g aE aG aB aH cE cG cB cH tl ty bi ei hs gs O) (hO : ∀ k, O k → k < w.heap.size) (hR : Rw w N (.slice al xs.length cl) xs Q) (hQ : ∀ k, Q k → ¬ O k) (sm : ∀ x ∈ xs, SmE x.dat) (hx : xs.length ≤ 274877906944) (hb : bi.length + 3 * xs.length + 3 ≤ 5864062014805) (he : ei.length + 1 ≤ 5864062014805)
    (hk : KeepP w w' N g (.slice aE ei.length cE) (.slice aG gs.length cG) (.slice aB bi.length cB) (.slice aH hs.length cH) tl ty (ei.map EI.v ++ [.slice al xs.length cl]) (bi.map BI.v ++ flat3 xs)) :
    ∃ aE' aB' cE' cB', Bq w' N g aE' aG aB' aH cE' cG cB' cH tl ty (bi ++ items xs) (ei ++ [EI.mk (.slice al xs.length cl) xs.length xs]) hs gs (fun k => O k ∨ Q k ∨ (w.heap.size ≤ k ∧ k < w'.heap.size)) ∧ SpF w w' O := by
  obtain ⟨vE, vB, kr, lE, lB, sp⟩ := hk
  have lenB : (bi.map BI.v ++ flat3 xs).length = (bi ++ items xs).length := by rw [← items_v, ← List.map_append, List.length_map]
  have lenE : (ei.map EI.v ++ [Value.slice al xs.length cl]).length = (ei ++ [EI.mk (.slice al xs.length cl) xs.length xs]).length := by simp
  have rB := kr.rB
  have rE := kr.rE
  have box := kr.box
  obtain ⟨aB', cB', rfl⟩ := row_formW rB
  obtain ⟨aE', cE', rfl⟩ := row_formW rE
  rw [lenB] at rB box lB
  rw [lenE] at rE box lE
  have eB : (bi ++ items xs).map BI.v = bi.map BI.v ++ flat3 xs := by rw [List.map_append, items_v]
  have eE : (ei ++ [EI.mk (.slice al xs.length cl) xs.length xs]).map EI.v = ei.map EI.v ++ [Value.slice al xs.length cl] := by simp
  have tg : Tyd w g ty := h.bp.box.tyd
  have tys := h.bp.tys
  have tE : ∀ k, (Value.slice aE ei.length cE).ownBlock = some k → Tyd w k 25 := fun k hk => row_tyd h.bp.rE hk
  have tB : ∀ k, (Value.slice aB bi.length cB).ownBlock = some k → Tyd w k 43 := fun k hk => row_tyd h.bp.rB hk
  have kt : ∀ x ty', Tyd w x ty' → ty' ≠ ty → ty' ≠ 25 → ty' ≠ 43 → w'.heap[x]? = w.heap[x]? := fun x ty' hx n1 n2 n3 => sp.block x hx.lt (fun z => by
    rcases z with z | z | z
    · exact hx.ne tg n1 z
    · exact (tE x z).ne hx (fun y => n2 y.symm) rfl
    · exact (tB x z).ne hx (fun y => n3 y.symm) rfl)
  have kU : ∀ x, Tyd w x 5 → w'.heap[x]? = w.heap[x]? := fun x hx => kt x _ hx (fun z => tys.2.2.2 z.symm) (by decide) (by decide)
  have kN : ∀ x, Tyd w x 45 → w'.heap[x]? = w.heap[x]? := fun x hx => kt x _ hx (fun z => tys.2.2.1 z.symm) (by decide) (by decide)
  have kH : ∀ k, (Value.slice aH hs.length cH).ownBlock = some k → w'.heap[k]? = w.heap[k]? := fun k hk => sp.block k (h.rH.lt k hk).2 (fun z => by
    rcases z with z | z | z
    · exact (row_tyd h.rH hk).ne tg (fun y => tys.1 y.symm) z
    · exact (tE k z).ne (row_tyd h.rH hk) (by decide) rfl
    · exact h.apBH k z hk)
  have kG : ∀ k, (Value.slice aG gs.length cG).ownBlock = some k → w'.heap[k]? = w.heap[k]? := fun k hk => sp.block k (h.rG.lt k hk).2 (fun z => by
    rcases z with z | z | z
    · exact (row_tyd h.rG hk).ne tg (fun y => tys.2.1 y.symm) z
    · exact h.apEG k z hk
    · exact (tB k z).ne (row_tyd h.rG hk) (by decide) rfl)
  have nQ : ∀ p ∈ items xs, ∀ k, p.v.ownBlock = some k → Q k := fun p hp k hk => by
    obtain ⟨x, hx, c⟩ := items_mem hp
    refine hR.entO x hx k ?_
    rcases c with c | c | c
    · exact .inl (c.1 ▸ hk)
    · exact .inr (.inl (c.1 ▸ hk))
    · exact .inr (.inr (c.1 ▸ hk))
  have pwI := items_ap hR.ents hR.ap
  have hlb : (bi ++ items xs).length = bi.length + 3 * xs.length := by rw [List.length_append, items_len]
  have hle : (ei ++ [EI.mk (.slice al xs.length cl) xs.length xs]).length = ei.length + 1 := by simp
  refine ⟨aE', aB', cE', cB', ⟨⟨box, by rw [eB]; exact rB, by rw [eE]; exact rE, tys, fun i p hp => ?_, fun i p hp => ?_, fun i j p q hp hq hne k hk => ?_, fun i j p q hp hq hne k hk => ?_, ⟨fun i p hp => ?_, fun i p hp => ?_⟩, ?_⟩, row_same h.rH kH, row_same h.rG kG, fun k hk z => ?_, fun k hk z => ?_, fun i p v hp hv => ?_, fun i p v hp hv => ?_, fun i j p v hp hv hne k hk => ?_, h.apHH, fun i j p v hp hv hne k hk => ?_, h.apGG, fun i p hi hp => ?_, fun i p hi hp => ?_, ⟨.inl h.inR.1, fun k hk => ?_, fun k hk => ?_, fun k hk => .inl (h.inR.2.2.2.1 k hk), fun k hk => .inl (h.inR.2.2.2.2 k hk)⟩, fun i p hp k hk => ?_, fun i p hp k hk => ?_, fun i v hv k hk => .inl (h.inH i v hv k hk), fun i v hv k hk => .inl (h.inG i v hv k hk)⟩, sp.mono (fun k _ z => ?_)⟩
  -- oB
  · rcases app_at hp with ⟨_, hp⟩ | ⟨_, hp⟩
    · have o := h.bp.oB i p hp
      exact own_same o (fun k hk => kU k (row_tyd o.2 hk))
    · obtain ⟨x, hx, c⟩ := items_mem (List.mem_of_getElem? hp)
      have o3 := hR.ents x hx
      rcases c with ⟨c1, c2, c3⟩ | ⟨c1, c2, c3⟩ | ⟨c1, c2, c3⟩
      · rw [c1, c2, c3]; exact own_same o3.row (fun k hk => kU k (row_tyd o3.row.2 hk))
      · rw [c1, c2, c3]; exact own_same o3.qual (fun k hk => kU k (row_tyd o3.qual.2 hk))
      · rw [c1, c2, c3]; exact own_same o3.val (fun k hk => kU k (row_tyd o3.val.2 hk))
  -- oE
  · rcases snoc_at hp with ⟨_, hp⟩ | ⟨_, rfl⟩
    · have o := h.bp.oE i p hp
      exact ⟨row_same o.1 (fun k hk => kN k (row_tyd o.1 hk)), o.2⟩
    · exact ⟨row_same hR.row (fun k hk => kN k (row_tyd hR.row hk)), rfl⟩
  -- apB
  · rcases app_at hp with ⟨_, hp⟩ | ⟨_, hp⟩
    · rcases app_at hq with ⟨_, hq⟩ | ⟨_, hq⟩
      · exact h.bp.apB i j p q hp hq hne k hk
      · exact fun z => hQ k (nQ q (List.mem_of_getElem? hq) k z) (h.inB i p hp k hk)
    · rcases app_at hq with ⟨_, hq⟩ | ⟨_, hq⟩
      · exact fun z => hQ k (nQ p (List.mem_of_getElem? hp) k hk) (h.inB j q hq k z)
      · exact pw_at (fun a b => ApI.symm) pwI hp hq (by omega) k hk
  -- apE
  · rcases snoc_at hp with ⟨_, hp⟩ | ⟨e1, rfl⟩
    · rcases snoc_at hq with ⟨_, hq⟩ | ⟨e2, rfl⟩
      · exact h.bp.apE i j p q hp hq hne k hk
      · exact fun z => hQ k (hR.rowO k z) (h.inE i p hp k hk)
    · rcases snoc_at hq with ⟨_, hq⟩ | ⟨e2, rfl⟩
      · exact fun z => hQ k (hR.rowO k hk) (h.inE j q hq k z)
      · omega
  -- len
  · rcases app_at hp with ⟨_, hp⟩ | ⟨_, hp⟩
    · exact h.bp.len.1 i p hp
    · obtain ⟨x, hx, c⟩ := items_mem (List.mem_of_getElem? hp)
      have s := (sm x hx).2
      simp only [EntD.dat] at s
      rcases c with ⟨c1, c2, c3⟩ | ⟨c1, c2, c3⟩ | ⟨c1, c2, c3⟩ <;> rw [c2] <;> omega
  · rcases snoc_at hp with ⟨_, hp⟩ | ⟨_, rfl⟩
    · exact h.bp.len.2 i p hp
    · exact hx
  · have := h.bp.few
    omega
  -- apBH, apEG
  · rcases lB k hk with y | y
    · exact h.apBH k y z
    · have := (h.rH.lt k z).2; omega
  · rcases lE k hk with y | y
    · exact h.apEG k y z
    · have := (h.rG.lt k z).2; omega
  -- oH, oG
  · have hi := idx_lt hv
    have := h.bp.few
    rcases app_at hp with ⟨_, hp⟩ | ⟨h2, hp⟩
    · have o := h.oH i p v hp hv
      exact own_same o (fun k hk => kU k (row_tyd o.2 hk))
    · omega
  · have hi := idx_lt hv
    have := h.bp.few
    rcases snoc_at hp with ⟨_, hp⟩ | ⟨h2, rfl⟩
    · have o := h.oG i p v hp hv
      exact row_same o (fun k hk => kN k (row_tyd o hk))
    · omega
  -- apH, apG
  · rcases app_at hp with ⟨_, hp⟩ | ⟨_, hp⟩
    · exact h.apH i j p v hp hv hne k hk
    · exact fun z => hQ k (nQ p (List.mem_of_getElem? hp) k hk) (h.inH j v hv k z)
  · rcases snoc_at hp with ⟨_, hp⟩ | ⟨_, rfl⟩
    · exact h.apG i j p v hp hv hne k hk
    · exact fun z => hQ k (hR.rowO k hk) (h.inG j v hv k z)
  -- dB, dE
  · have := h.bp.few
    rcases app_at hp with ⟨_, hp⟩ | ⟨h2, hp⟩
    · exact h.dB i p hi hp
    · omega
  · have := h.bp.few
    rcases snoc_at hp with ⟨_, hp⟩ | ⟨h2, rfl⟩
    · exact h.dE i p hi hp
    · omega
  -- in
  · rcases lB k hk with y | y
    · exact .inl (h.inR.2.1 k y)
    · exact .inr (.inr ⟨y, (rB.lt k hk).2⟩)
  · rcases lE k hk with y | y
    · exact .inl (h.inR.2.2.1 k y)
    · exact .inr (.inr ⟨y, (rE.lt k hk).2⟩)
  · rcases app_at hp with ⟨_, hp⟩ | ⟨_, hp⟩
    · exact .inl (h.inB i p hp k hk)
    · exact .inr (.inl (nQ p (List.mem_of_getElem? hp) k hk))
  · rcases snoc_at hp with ⟨_, hp⟩ | ⟨_, rfl⟩
    · exact .inl (h.inE i p hp k hk)
    · exact .inr (.inl (hR.rowO k hk))
  · rcases z with rfl | z | z
    · exact h.inR.1
    · exact h.inR.2.2.1 k z
    · exact h.inR.2.1 k z
end
def Bok (w : World) (N g : Nat) (tl : List Value) (ty : TypeId) (nB nE sB sE : Nat) (O : Nat → Prop) : Prop := ∃ aE aG aB aH cE cG cB cH bi ei hs gs, Bq w N g aE aG aB aH cE cG cB cH tl ty bi ei hs gs O ∧ bi.length = nB ∧ ei.length = nE ∧ hs.length = sB ∧ gs.length = sE ∧ ∀ k, O k → N ≤ k ∧ k < w.heap.size
section
variable {w w' : World} {N g nB nE sB sE : Nat} {tl : List Value} {ty : TypeId} {O Q : Nat → Prop}
theorem Bok.keep (h : Bok w N g tl ty nB nE sB sE O) (k : ∀ i, O i → w'.heap[i]? = w.heap[i]?) (hs : w.heap.size ≤ w'.heap.size) : Bok w' N g tl ty nB nE sB sE O := by
  obtain ⟨aE, aG, aB, aH, cE, cG, cB, cH, bi, ei, hs', gs, q, e1, e2, e3, e4, lo⟩ := h
  exact ⟨aE, aG, aB, aH, cE, cG, cB, cH, bi, ei, hs', gs, q.keep k, e1, e2, e3, e4, fun i hi => ⟨(lo i hi).1, Nat.lt_of_lt_of_le (lo i hi).2 hs⟩⟩
theorem Bok.later (h : Bok w N g tl ty nB nE sB sE O) (b : Below w.heap.size w w') : Bok w' N g tl ty nB nE sB sE O := by
  have lo : ∀ k, O k → N ≤ k ∧ k < w.heap.size := by
    obtain ⟨_, _, _, _, _, _, _, _, _, _, _, _, _, _, _, _, _, lo⟩ := h
    exact lo
  exact h.keep (fun i hi => b.block i (lo i hi).2) b.size
theorem Bok.lo (h : Bok w N g tl ty nB nE sB sE O) : ∀ k, O k → N ≤ k ∧ k < w.heap.size := by
  obtain ⟨_, _, _, _, _, _, _, _, _, _, _, _, _, _, _, _, _, lo⟩ := h
  exact lo
theorem bok_keep {al : Option Addr} {cl : Nat} {xs : List EntD} (h : Bok w N g tl ty nB nE sB sE O) (hN : N ≤ w.heap.size) (hR : Rw w N (.slice al xs.length cl) xs Q) (hl : RdL3 w al cl xs) (hQ : ∀ k, Q k → ¬ O k) (hQl : ∀ k, Q k → N ≤ k ∧ k < w.heap.size) (sm : ∀ x ∈ xs, SmE x.dat) (hx : xs.length ≤ 274877906944) (hb : nB + 3 * xs.length + 3 ≤ 5864062014805) (he : nE + 1 ≤ 5864062014805) :
    Calls Try.prog 11 #[.pointer (some ⟨g, 0, none⟩), .slice al xs.length cl] w fun r w' => r = .returned (.tuple #[]) ∧ Bok w' N g tl ty (nB + 3 * xs.length) (nE + 1) sB sE (fun k => O k ∨ Q k ∨ (w.heap.size ≤ k ∧ k < w'.heap.size)) ∧ SpF w w' O := by
  obtain ⟨aE, aG, aB, aH, cE, cG, cB, cH, bi, ei, hs, gs, q, e1, e2, e3, e4, lo⟩ := h
  refine Calls.mono (bkeep_any q.kr hN hl (fun b o e => ?_) (by rw [List.length_map, e1]; exact hb) (by rw [List.length_map, e2]; exact he) (by omega)) ?_
  · subst e
    exact row_tyd hR.row rfl
  · rintro r w' ⟨rfl, kp⟩
    have hsz : w.heap.size ≤ w'.heap.size := by
      obtain ⟨_, _, _, _, _, sp⟩ := kp
      exact sp.size
    obtain ⟨aE', aB', cE', cB', q', sp⟩ := q.kept (fun k hk => (lo k hk).2) hR hQ sm hx (by rw [e1]; exact hb) (by rw [e2]; exact he) kp
    refine ⟨rfl, ⟨aE', aG, aB', aH, cE', cG, cB', cH, _, _, hs, gs, q', by rw [List.length_append, items_len, e1], by rw [List.length_append, e2]; rfl, e3, e4, fun k hk => ?_⟩, sp⟩
    rcases hk with z | z | z
    · exact ⟨(lo k z).1, Nat.lt_of_lt_of_le (lo k z).2 hsz⟩
    · exact ⟨(hQl k z).1, Nat.lt_of_lt_of_le (hQl k z).2 hsz⟩
    · exact ⟨Nat.le_trans hN z.1, z.2⟩
theorem bok_spoils (h : Bok w N g tl ty nB nE sB sE O) (hN : N ≤ w.heap.size) (hb : nB + 1 ≤ 5864062014805) (he : nE + 1 ≤ 5864062014805) :
    Calls Try.prog 12 #[.pointer (some ⟨g, 0, none⟩)] w fun r w' => r = .returned (.tuple #[]) ∧ Bok w' N g tl ty nB nE nB nE (fun k => O k ∨ (w.heap.size ≤ k ∧ k < w'.heap.size)) ∧ SpF w w' O := by
  obtain ⟨aE, aG, aB, aH, cE, cG, cB, cH, bi, ei, hs, gs, q, e1, e2, e3, e4, lo⟩ := h
  refine Calls.mono (bspoils_any q (fun k hk => (lo k hk).2) hN (by rw [e1]; exact hb) (by rw [e2]; exact he)) ?_
  rintro r w' ⟨rfl, aG', aH', cG', cH', bi', ei', hs', gs', q', l1, l2, l3, l4, sp⟩
  refine ⟨rfl, ⟨aE, aG', aB, aH', cE, cG', cB, cH', bi', ei', hs', gs', q', l3.trans e1, l4.trans e2, l1.trans (l3.trans e1), l2.trans (l4.trans e2), fun k hk => ?_⟩, sp⟩
  rcases hk with z | z
  · exact ⟨(lo k z).1, Nat.lt_of_lt_of_le (lo k z).2 sp.size⟩
  · exact ⟨Nat.le_trans hN z.1, z.2⟩
theorem bok_stands (h : Bok w N g tl ty nB nE nB nE O) :
    Calls Try.prog 13 #[.pointer (some ⟨g, 0, none⟩)] w fun r w' => r = .returned (.bool true) ∧ w' = w := by
  obtain ⟨aE, aG, aB, aH, cE, cG, cB, cH, bi, ei, hs, gs, q, e1, e2, e3, e4, lo⟩ := h
  exact q.stands (e3.trans e1.symm) (e4.trans e2.symm)
theorem bok_new {tl : List Value} {ty : TypeId} (hN : N ≤ w.heap.size) (ht : ty ≠ 43 ∧ ty ≠ 25 ∧ ty ≠ 45 ∧ ty ≠ 5) : Bok (w.alloc (.cells (.slice none 0 0 :: .slice none 0 0 :: .slice none 0 0 :: .slice none 0 0 :: .slice none 0 0 :: tl).toArray ty)) N w.heap.size tl ty 0 0 0 0 (fun k => k = w.heap.size) := by
  refine ⟨none, none, none, none, 0, 0, 0, 0, [], [], [], [], ⟨⟨heap_new w _, World.ownsRow_nil _ _ _ _, World.ownsRow_nil _ _ _ _, ht, ?_, ?_, ?_, ?_, ⟨?_, ?_⟩, ⟨Nat.zero_le _, Nat.zero_le _, Nat.zero_le _, Nat.zero_le _⟩⟩, World.ownsRow_nil _ _ _ _, World.ownsRow_nil _ _ _ _, ?_, ?_, ?_, ?_, ?_, ?_, ?_, ?_, ?_, ?_, ⟨rfl, ?_, ?_, ?_, ?_⟩, ?_, ?_, ?_, ?_⟩, rfl, rfl, rfl, rfl, fun k hk => by rw [hk, World.size_alloc]; omega⟩
  all_goals (intros; simp_all [Value.ownBlock])
end
end Go.Proofs.Ythhkpkfpifllkaa

namespace Go.Proofs.Ythhkpkfpifllkaa
open Go.RowKit
set_option linter.unusedVariables false

theorem Rw.keepT {w w' : World} {N : Nat} {v : Value} {xs : List EntD} {O : Nat → Prop} (h : Rw w N v xs O) (k1 : ∀ k, Tyd w k 45 → w'.heap[k]? = w.heap[k]?) (k2 : ∀ k, Tyd w k 5 → w'.heap[k]? = w.heap[k]?) : Rw w' N v xs O :=
  ⟨row_same h.row (fun g hg => k1 g (row_tyd h.row hg)), fun x hx => (h.ents x hx).keepO (fun g hg => k2 g (by
    rcases hg with z | z | z
    · exact row_tyd (h.ents x hx).row.2 z
    · exact row_tyd (h.ents x hx).qual.2 z
    · exact row_tyd (h.ents x hx).val.2 z)), h.ap, h.rowO, h.entO⟩
structure LI where
  a : Option Addr
  c : Nat
  zs : List EntD
  Q : Nat → Prop
def LI.val (p : LI) : Value := .slice p.a p.zs.length p.c
structure Out3 (w : World) (N g n : Nat) (vw : Value) (ws : List EntD) (Ds : List (List En)) (vf : Value) (us : List Value) (nB nE sB sE : Nat) (O F : Nat → Prop) : Prop where
  bok : Bok w N g [] 33 nB nE sB sE O
  was : Rw w N vw ws F
  row : w.ownsRow N 25 1 vf us.length us
  rowF : ∀ k, vf.ownBlock = some k → F k
  fst : ∀ (j : Nat) (u : Value), us[j]? = some u → ∃ zs D, Ds[j]? = some D ∧ Rw w N u zs F ∧ zs.map EntD.dat = D ∧ (∀ x ∈ zs, SmE x.dat) ∧ zs.length ≤ n
  disj : ∀ k, O k → ¬ F k
  Flt : ∀ k, F k → N ≤ k ∧ k < w.heap.size
structure In3 (w : World) (N g n : Nat) (vw : Value) (ws : List EntD) (Ds : List (List En)) (vf : Value) (us : List Value) (nB nE sB sE : Nat) (O F : Nat → Prop) (va : Option Addr) (ca : Nat) (ls : List LI) (i : Nat) : Prop where
  out : Out3 w N g n vw ws Ds vf us nB nE sB sE O F
  all : w.ownsRow N 25 1 (.slice va 5 ca) 5 (ls.map LI.val)
  allF : ∀ k, (Value.slice va 5 ca).ownBlock = some k → F k
  apA : ∀ k, vf.ownBlock = some k → (Value.slice va 5 ca).ownBlock ≠ some k
  pen : ∀ (j : Nat) (p : LI), i ≤ j → ls[j]? = some p → Rw w N p.val p.zs p.Q ∧ ∀ k, p.Q k → ¬ O k ∧ ¬ F k
  ap : ∀ (j j' : Nat) (p p' : LI), j ≠ j' → ls[j]? = some p → ls[j']? = some p' → ∀ k, p.Q k → ¬ p'.Q k
  Qlt : ∀ (j : Nat) (p : LI), ls[j]? = some p → ∀ k, p.Q k → N ≤ k ∧ k < w.heap.size
  dat : ∀ (j : Nat) (p : LI), ls[j]? = some p → Ds[j]? = some (p.zs.map EntD.dat) ∧ (∀ x ∈ p.zs, SmE x.dat) ∧ p.zs.length ≤ n
section
variable {w w' : World} {N g n : Nat} {vw : Value} {ws : List EntD} {Ds : List (List En)} {vf : Value} {us : List Value} {nB nE sB sE : Nat} {O F : Nat → Prop} {va : Option Addr} {ca : Nat} {ls : List LI} {i : Nat}
theorem Out3.keep (h : Out3 w N g n vw ws Ds vf us nB nE sB sE O F) (k : ∀ i, i < w.heap.size → w'.heap[i]? = w.heap[i]?) (hs : w.heap.size ≤ w'.heap.size) : Out3 w' N g n vw ws Ds vf us nB nE sB sE O F :=
  have kF : ∀ i, F i → w'.heap[i]? = w.heap[i]? := fun i hi => k i (h.Flt i hi).2
  ⟨h.bok.keep (fun i hi => k i (h.bok.lo i hi).2) hs, h.was.keep kF, row_same h.row (fun x hx => kF x (h.rowF x hx)), h.rowF, fun j u hu => by
    obtain ⟨zs, D, e1, e2, e3⟩ := h.fst j u hu
    exact ⟨zs, D, e1, e2.keep kF, e3⟩, h.disj, fun x hx => ⟨(h.Flt x hx).1, Nat.lt_of_lt_of_le (h.Flt x hx).2 hs⟩⟩
theorem In3.keep (h : In3 w N g n vw ws Ds vf us nB nE sB sE O F va ca ls i) (k : ∀ i, i < w.heap.size → w'.heap[i]? = w.heap[i]?) (hs : w.heap.size ≤ w'.heap.size) : In3 w' N g n vw ws Ds vf us nB nE sB sE O F va ca ls i :=
  ⟨h.out.keep k hs, row_same h.all (fun x hx => k x (h.all.lt x hx).2), h.allF, h.apA, fun j p hj hp => ⟨(h.pen j p hj hp).1.keep (fun x hx => k x (h.Qlt j p hp x hx).2), (h.pen j p hj hp).2⟩, h.ap, fun j p hp x hx => ⟨(h.Qlt j p hp x hx).1, Nat.lt_of_lt_of_le (h.Qlt j p hp x hx).2 hs⟩, h.dat⟩
theorem In3.later (h : In3 w N g n vw ws Ds vf us nB nE sB sE O F va ca ls i) (b : Below w.heap.size w w') : In3 w' N g n vw ws Ds vf us nB nE sB sE O F va ca ls i := h.keep (fun i hi => b.block i hi) b.size
theorem Out3.later (h : Out3 w N g n vw ws Ds vf us nB nE sB sE O F) (b : Below w.heap.size w w') : Out3 w' N g n vw ws Ds vf us nB nE sB sE O F := h.keep (fun i hi => b.block i hi) b.size
theorem Out3.side {O' : Nat → Prop} {nB' nE' sB' sE' : Nat} (h : Out3 w N g n vw ws Ds vf us nB nE sB sE O F) (sp : SpF w w' O) (b : Bok w' N g [] 33 nB' nE' sB' sE' O') (hd : ∀ k, O' k → ¬ F k) : Out3 w' N g n vw ws Ds vf us nB' nE' sB' sE' O' F :=
  have kF : ∀ i, F i → w'.heap[i]? = w.heap[i]? := fun i hi => sp.block i (h.Flt i hi).2 (fun z => h.disj i z hi)
  ⟨b, h.was.keep kF, row_same h.row (fun x hx => kF x (h.rowF x hx)), h.rowF, fun j u hu => by
    obtain ⟨zs, D, e1, e2, e3⟩ := h.fst j u hu
    exact ⟨zs, D, e1, e2.keep kF, e3⟩, hd, fun x hx => ⟨(h.Flt x hx).1, Nat.lt_of_lt_of_le (h.Flt x hx).2 sp.size⟩⟩
theorem In3.kept {p : LI} {O' : Nat → Prop} {nB' nE' : Nat} (h : In3 w N g n vw ws Ds vf us nB nE sB sE O F va ca ls i) (hp : ls[i]? = some p) (sp : SpF w w' O) (b : Bok w' N g [] 33 nB' nE' sB sE O') (hO : ∀ k, O' k → O k ∨ p.Q k ∨ (w.heap.size ≤ k ∧ k < w'.heap.size)) : In3 w' N g n vw ws Ds vf us nB' nE' sB sE O' F va ca ls (i + 1) := by
  have kF : ∀ i, F i → w'.heap[i]? = w.heap[i]? := fun i hi => sp.block i (h.out.Flt i hi).2 (fun z => h.out.disj i z hi)
  refine ⟨h.out.side sp b (fun k hk z => ?_), row_same h.all (fun x hx => kF x (h.allF x hx)), h.allF, h.apA, fun j q hj hq => ⟨(h.pen j q (by omega) hq).1.keep (fun x hx => sp.block x (h.Qlt j q hq x hx).2 ((h.pen j q (by omega) hq).2 x hx).1), fun k hk => ⟨fun z => ?_, ((h.pen j q (by omega) hq).2 k hk).2⟩⟩, h.ap, fun j q hq x hx => ⟨(h.Qlt j q hq x hx).1, Nat.lt_of_lt_of_le (h.Qlt j q hq x hx).2 sp.size⟩, h.dat⟩
  · rcases hO k hk with y | y | y
    · exact h.out.disj k y z
    · exact ((h.pen i p (Nat.le_refl _) hp).2 k y).2 z
    · have := (h.out.Flt k z).2; omega
  · rcases hO k z with y | y | y
    · exact ((h.pen j q (by omega) hq).2 k hk).1 y
    · exact h.ap j i q p (by omega) hq hp k hk y
    · have := (h.Qlt j q hq k hk).2; omega
theorem In3.first {p : LI} {w1 w2 : World} {zs : List EntD} {v : Value} {a' : Option Addr} {n' c' : Nat} (h : In3 w N g n vw ws Ds vf us nB nE sB sE O F va ca ls i) (hp : ls[i]? = some p) (hu : us.length = i) (hN : N ≤ w.heap.size) (cl : Cl w w1 zs v) (hd : zs.map EntD.dat = p.zs.map EntD.dat) (r2 : w2.ownsRow N 25 1 (.slice a' n' c') (us ++ [v]).length (us ++ [v])) (g2 : (w1.alloc (.cells #[v] 25)).grownBy w2 vf.ownBlock) (lo : ∀ k, (Value.slice a' n' c').ownBlock = some k → vf.ownBlock = some k ∨ w1.heap.size + 1 ≤ k) :
    In3 w2 N g n vw ws Ds (.slice a' n' c') (us ++ [v]) nB nE sB sE O (fun k => F k ∨ (w.heap.size ≤ k ∧ k < w2.heap.size)) va ca ls i := by
  have b1 : Below w.heap.size w (w1.alloc (.cells #[v] 25)) := cl.below.alloc cl.below.size _
  have s1 : w.heap.size ≤ w1.heap.size := cl.below.size
  have s3 : (w1.alloc (.cells #[v] 25)).heap.size = w1.heap.size + 1 := World.size_alloc _ _
  have s2 : w1.heap.size + 1 ≤ w2.heap.size := s3 ▸ g2.size
  have kk : ∀ x, x < w.heap.size → vf.ownBlock ≠ some x → w2.heap[x]? = w.heap[x]? := fun x hx e => (g2.block x (by omega) (fun z => e z.symm)).trans (b1.block x hx)
  have tf : ∀ k, vf.ownBlock = some k → Tyd w k 25 := fun k hk => row_tyd h.out.row hk
  have kt : ∀ x ty', Tyd w x ty' → ty' ≠ 25 → w2.heap[x]? = w.heap[x]? := fun x ty' hx ne => kk x hx.lt (fun z => (tf x z).ne hx (fun y => ne y.symm) rfl)
  have k1 : ∀ x, Tyd w x 45 → w2.heap[x]? = w.heap[x]? := fun x hx => kt x _ hx (by decide)
  have k2 : ∀ x, Tyd w x 5 → w2.heap[x]? = w.heap[x]? := fun x hx => kt x _ hx (by decide)
  have new1 : ∀ x, w.heap.size ≤ x → x < w1.heap.size → w2.heap[x]? = w1.heap[x]? := fun x hx hx1 => by
    have e : (w1.alloc (.cells #[v] 25)).heap[x]? = w1.heap[x]? := ((Below.refl w1.heap.size w1).alloc (Nat.le_refl _) _).block x hx1
    exact (g2.block x (by omega) (fun z => by have := (h.out.row.lt x z.symm).2; omega)).trans e
  have hz := (h.dat i p hp)
  have rwz : Rw w2 N v zs (fun k => F k ∨ (w.heap.size ≤ k ∧ k < w2.heap.size)) := ((cl.rw.keep (fun x hx => new1 x hx.1 hx.2)).low hN).mono (fun x hx => .inr ⟨hx.1, by omega⟩)
  refine ⟨⟨h.out.bok.keep (fun x hx => kk x (h.out.bok.lo x hx).2 (fun z => h.out.disj x hx (h.out.rowF x z))) (by omega), (h.out.was.keepT k1 k2).mono (fun x hx => .inl hx), r2, fun k hk => ?_, fun j u hj => ?_, fun k hk z => ?_, fun k hk => ?_⟩, row_same h.all (fun x hx => kk x (h.all.lt x hx).2 (fun z => h.apA x z hx)), fun k hk => .inl (h.allF k hk), fun k hk z => ?_, fun j q hj hq => ⟨(h.pen j q hj hq).1.keep (fun x hx => kk x (h.Qlt j q hq x hx).2 (fun z => ((h.pen j q hj hq).2 x hx).2 (h.out.rowF x z))), fun k hk => ⟨((h.pen j q hj hq).2 k hk).1, fun z => ?_⟩⟩, h.ap, fun j q hq x hx => ⟨(h.Qlt j q hq x hx).1, Nat.lt_of_lt_of_le (h.Qlt j q hq x hx).2 (by omega)⟩, h.dat⟩
  · rcases lo k hk with z | z
    · exact .inl (h.out.rowF k z)
    · exact .inr ⟨by omega, (r2.lt k hk).2⟩
  · rcases snoc_at hj with ⟨_, hj⟩ | ⟨e, rfl⟩
    · obtain ⟨ys, D, e1, e2, e3⟩ := h.out.fst j u hj
      exact ⟨ys, D, e1, (e2.keepT k1 k2).mono (fun x hx => .inl hx), e3⟩
    · rw [hu] at e
      subst e
      refine ⟨zs, _, hz.1, rwz, hd, fun x hx => ?_, ?_⟩
      · have : x.dat ∈ zs.map EntD.dat := List.mem_map_of_mem hx
        rw [hd] at this
        obtain ⟨y, hy, e⟩ := List.mem_map.1 this
        rw [← e]
        exact hz.2.1 y hy
      · have := congrArg List.length hd
        rw [List.length_map, List.length_map] at this
        rw [this]
        exact hz.2.2
  · rcases z with z | z
    · exact h.out.disj k hk z
    · have := (h.out.bok.lo k hk).2; omega
  · rcases hk with z | z
    · exact ⟨(h.out.Flt k z).1, by have := (h.out.Flt k z).2; omega⟩
    · exact ⟨by omega, z.2⟩
  · rcases lo k hk with y | y
    · exact h.apA k y z
    · have := (h.all.lt k z).2; omega
  · rcases z with z | z
    · exact ((h.pen j q hj hq).2 k hk).2 z
    · have := (h.Qlt j q hq k hk).2; omega
end
theorem OwL.pend {Z Z' X : World} {N n : Nat} {D : List En} {a : Option Addr} {c : Nat} {zs : List EntD} (ow : OwL Z Z' n D a c zs) (hN : N ≤ Z.heap.size) (b : Below Z'.heap.size Z' X) : Rw X N (.slice a zs.length c) zs (fun i => Z.heap.size ≤ i ∧ i < Z'.heap.size) := (ow.rw_.keep (fun i hi => b.block i hi.2)).low hN
theorem five_at {α : Type} {a b c d e x : α} {j : Nat} (h : [a, b, c, d, e][j]? = some x) : (j = 0 ∧ x = a) ∨ (j = 1 ∧ x = b) ∨ (j = 2 ∧ x = c) ∨ (j = 3 ∧ x = d) ∨ (j = 4 ∧ x = e) := by
  match j, h with
  | 0, h => exact .inl ⟨rfl, (Option.some.inj h).symm⟩
  | 1, h => exact .inr (.inl ⟨rfl, (Option.some.inj h).symm⟩)
  | 2, h => exact .inr (.inr (.inl ⟨rfl, (Option.some.inj h).symm⟩))
  | 3, h => exact .inr (.inr (.inr (.inl ⟨rfl, (Option.some.inj h).symm⟩)))
  | 4, h => exact .inr (.inr (.inr (.inr ⟨rfl, (Option.some.inj h).symm⟩)))
  | j + 5, h => simp at h
theorem in3_start {Z0 Z1 Z2 Z3 Z4 Z5 : World} {N g n : Nat} {vw : Value} {ws : List EntD} {D1 D2 D3 D4 D5 : List En} {vf : Value} {us : List Value} {nB nE sB sE : Nat} {O F : Nat → Prop} {a1 a2 a3 a4 a5 : Option Addr} {c1 c2 c3 c4 c5 : Nat} {z1 z2 z3 z4 z5 : List EntD}
    (h : Out3 Z0 N g n vw ws [D1, D2, D3, D4, D5] vf us nB nE sB sE O F) (hN : N ≤ Z0.heap.size)
    (o1 : OwL Z0 Z1 n D1 a1 c1 z1) (b1 : Below Z0.heap.size Z0 Z1) (o2 : OwL Z1 Z2 n D2 a2 c2 z2) (b2 : Below Z1.heap.size Z1 Z2) (o3 : OwL Z2 Z3 n D3 a3 c3 z3) (b3 : Below Z2.heap.size Z2 Z3) (o4 : OwL Z3 Z4 n D4 a4 c4 z4) (b4 : Below Z3.heap.size Z3 Z4) (o5 : OwL Z4 Z5 n D5 a5 c5 z5) (b5 : Below Z4.heap.size Z4 Z5) :
    In3 (Z5.alloc (.cells #[.slice a1 z1.length c1, .slice a2 z2.length c2, .slice a3 z3.length c3, .slice a4 z4.length c4, .slice a5 z5.length c5] 25)) N g n vw ws [D1, D2, D3, D4, D5] vf us nB nE sB sE O (fun k => F k ∨ k = Z5.heap.size) (some ⟨Z5.heap.size, 0, none⟩) 5 [⟨a1, c1, z1, fun i => Z0.heap.size ≤ i ∧ i < Z1.heap.size⟩, ⟨a2, c2, z2, fun i => Z1.heap.size ≤ i ∧ i < Z2.heap.size⟩, ⟨a3, c3, z3, fun i => Z2.heap.size ≤ i ∧ i < Z3.heap.size⟩, ⟨a4, c4, z4, fun i => Z3.heap.size ≤ i ∧ i < Z4.heap.size⟩, ⟨a5, c5, z5, fun i => Z4.heap.size ≤ i ∧ i < Z5.heap.size⟩] 0 := by
  obtain ⟨ob, hob⟩ : ∃ ob, ob = Obj.cells #[.slice a1 z1.length c1, .slice a2 z2.length c2, .slice a3 z3.length c3, .slice a4 z4.length c4, .slice a5 z5.length c5] 25 (0, 0) := ⟨_, rfl⟩
  have s1 := b1.size
  have s2 := b2.size
  have s3 := b3.size
  have s4 := b4.size
  have s5 := b5.size
  rw [← hob]
  have A : Below Z5.heap.size Z5 (Z5.alloc ob) := (Below.refl _ _).alloc (Nat.le_refl _) _
  have s6 : (Z5.alloc ob).heap.size = Z5.heap.size + 1 := World.size_alloc _ _
  have t4 : Below Z4.heap.size Z4 (Z5.alloc ob) := b5.trans (A.mono b5.size)
  have t3 : Below Z3.heap.size Z3 (Z5.alloc ob) := b4.trans (t4.mono b4.size)
  have t2 : Below Z2.heap.size Z2 (Z5.alloc ob) := b3.trans (t3.mono b3.size)
  have t1 : Below Z1.heap.size Z1 (Z5.alloc ob) := b2.trans (t2.mono b2.size)
  have t0 : Below Z0.heap.size Z0 (Z5.alloc ob) := b1.trans (t1.mono b1.size)
  have hl := h.later t0
  have hnew : (Z5.alloc ob).heap[Z5.heap.size]? = some ob := heap_new Z5 ob
  refine ⟨⟨hl.bok, hl.was.mono (fun k hk => .inl hk), hl.row, fun k hk => .inl (hl.rowF k hk), fun j u hu => ?_, fun k hk z => ?_, fun k hk => ?_⟩, ⟨rfl, .inr ⟨Z5.heap.size, 5, _, rfl, by omega, by rw [hnew, hob], Nat.le_refl _, by decide, rfl, rfl⟩⟩, fun k hk => ?_, fun k hk z => ?_, fun j p _ hp => ?_, fun j j' p p' hne hp hp' k hk z => ?_, fun j p hp k hk => ?_, fun j p hp => ?_⟩
  · obtain ⟨zs, D, e1, e2, e3⟩ := hl.fst j u hu
    exact ⟨zs, D, e1, e2.mono (fun k hk => .inl hk), e3⟩
  · rcases z with z | z
    · exact hl.disj k hk z
    · have := (h.bok.lo k hk).2; omega
  · rcases hk with z | z
    · exact hl.Flt k z
    · exact ⟨by omega, by omega⟩
  · cases hk; exact .inr rfl
  · have e : Z5.heap.size = k := Option.some.inj z
    have := (h.row.lt _ hk).2
    omega
  · have nOF : ∀ k, Z0.heap.size ≤ k → k < Z5.heap.size → ¬ O k ∧ ¬ (F k ∨ k = Z5.heap.size) := fun k hk hk5 => ⟨fun z => by have := (h.bok.lo k z).2; omega, fun z => by
      rcases z with z | z
      · have := (h.Flt k z).2; omega
      · omega⟩
    rcases five_at hp with ⟨_, rfl⟩ | ⟨_, rfl⟩ | ⟨_, rfl⟩ | ⟨_, rfl⟩ | ⟨_, rfl⟩
    · exact ⟨o1.pend hN t1, fun k hk => nOF k (by have := hk.1; omega) (by have := hk.2; omega)⟩
    · exact ⟨o2.pend (by omega) t2, fun k hk => nOF k (by have := hk.1; omega) (by have := hk.2; omega)⟩
    · exact ⟨o3.pend (by omega) t3, fun k hk => nOF k (by have := hk.1; omega) (by have := hk.2; omega)⟩
    · exact ⟨o4.pend (by omega) t4, fun k hk => nOF k (by have := hk.1; omega) (by have := hk.2; omega)⟩
    · exact ⟨o5.pend (by omega) A, fun k hk => nOF k (by have := hk.1; omega) (by have := hk.2; omega)⟩
  · rcases five_at hp with ⟨e, rfl⟩ | ⟨e, rfl⟩ | ⟨e, rfl⟩ | ⟨e, rfl⟩ | ⟨e, rfl⟩ <;> rcases five_at hp' with ⟨e', rfl⟩ | ⟨e', rfl⟩ | ⟨e', rfl⟩ | ⟨e', rfl⟩ | ⟨e', rfl⟩ <;> first | (exact hne (e.trans e'.symm)) | (have x1 := hk.1; have x2 := hk.2; have x3 := z.1; have x4 := z.2; omega)
  · rcases five_at hp with ⟨e, rfl⟩ | ⟨e, rfl⟩ | ⟨e, rfl⟩ | ⟨e, rfl⟩ | ⟨e, rfl⟩ <;> (have x1 := hk.1; have x2 := hk.2; exact ⟨by omega, by omega⟩)
  · rcases five_at hp with ⟨rfl, rfl⟩ | ⟨rfl, rfl⟩ | ⟨rfl, rfl⟩ | ⟨rfl, rfl⟩ | ⟨rfl, rfl⟩
    · exact ⟨by rw [o1.dat]; rfl, o1.sm, o1.len⟩
    · exact ⟨by rw [o2.dat]; rfl, o2.sm, o2.len⟩
    · exact ⟨by rw [o3.dat]; rfl, o3.sm, o3.len⟩
    · exact ⟨by rw [o4.dat]; rfl, o4.sm, o4.len⟩
    · exact ⟨by rw [o5.dat]; rfl, o5.sm, o5.len⟩
end Go.Proofs.Ythhkpkfpifllkaa

namespace Go.Proofs.Ythhkpkfpifllkaa
open Go.RowKit
set_option linter.unusedVariables false

theorem Rw.rdl2 {W : World} {N : Nat} {a : Option Addr} {c : Nat} {zs : List EntD} {O : Nat → Prop} (h : Rw W N (.slice a zs.length c) zs O) (hb : ∀ x ∈ zs, SmE x.dat) : RdL3 W a c zs := by
  obtain ⟨a', c', e, _, hr⟩ := h.rdl (fun x hx => (hb x hx).1)
  simp only [Value.slice.injEq, true_and] at e
  obtain ⟨rfl, rfl⟩ := e
  exact hr
theorem Rw.rdl3 {W : World} {N : Nat} {a : Option Addr} {c : Nat} {zs : List EntD} {O : Nat → Prop} (h : Rw W N (.slice a zs.length c) zs O) (hb : ∀ e ∈ zs.map EntD.dat, ByE e) : RdL3 W a c zs := by
  obtain ⟨a', c', e, _, hr⟩ := h.rdl (fun x hx => hb _ (List.mem_map_of_mem hx))
  simp only [Value.slice.injEq, true_and] at e
  obtain ⟨rfl, rfl⟩ := e
  exact hr
theorem SmE.shrt {x : EntD} (h : SmE x.dat) : Shrt x := by
  have := h.2
  simp only [EntD.dat] at this
  exact ⟨by omega, by omega, by omega⟩
theorem SpF.far {w w' : World} {N : Nat} {O : Nat → Prop} (h : SpF w w' O) (hO : ∀ k, O k → N ≤ k) (hN : N ≤ w.heap.size) : Below N w w' := ⟨h.os, h.tape, h.output, h.size, fun i hi => h.block i (Nat.lt_of_lt_of_le hi hN) (fun z => by have := hO i z; omega)⟩
def OutR (X0 wr : World) (N g NL q m : Nat) (vw : Value) (ws : List EntD) (Ds : List (List En)) (vf : Value) : Prop := ∃ us nB O F, m = us.length ∧ us.length = (if q = 0 then 0 else 5) ∧ nB ≤ q * 15728640 ∧ Out3 wr N g NL vw ws Ds vf us nB (5 * q) nB (5 * q) O F ∧ Below N X0 wr
def InR (X0 wr : World) (N g NL q m : Nat) (vw : Value) (ws : List EntD) (Ds : List (List En)) (vf : Value) (sB : Nat) (va : Option Addr) (ls : List LI) (j h : Nat) : Prop := ∃ us nB O F, m = us.length ∧ us.length = (if q = 0 then h else 5) ∧ nB ≤ q * 15728640 + j * 3145728 ∧ In3 wr N g NL vw ws Ds vf us nB (5 * q + j) sB (5 * q) O F va 5 ls j ∧ Below N X0 wr
section
variable {X0 wr w' : World} {N g NL q m sB j h : Nat} {vw : Value} {ws : List EntD} {Ds : List (List En)} {vf : Value} {va : Option Addr} {ls : List LI} {p : LI}
theorem InR.later (s : InR X0 wr N g NL q m vw ws Ds vf sB va ls j h) (hN : N ≤ wr.heap.size) (b : Below wr.heap.size wr w') : InR X0 w' N g NL q m vw ws Ds vf sB va ls j h := by
  obtain ⟨us, nB, O, F, e1, e2, e3, i3, bl⟩ := s
  exact ⟨us, nB, O, F, e1, e2, e3, i3.later b, bl.trans (b.mono hN)⟩
theorem InR.bel (s : InR X0 wr N g NL q m vw ws Ds vf sB va ls j h) : Below N X0 wr := by
  obtain ⟨us, nB, O, F, e1, e2, e3, i3, bl⟩ := s
  exact bl
theorem InR.cell (s : InR X0 wr N g NL q m vw ws Ds vf sB va ls j h) (hp : ls[j]? = some p) : ∃ gA, va = some ⟨gA, 0, none⟩ ∧ wr.cell? ⟨gA, j, none⟩ = some (.slice p.a p.zs.length p.c) ∧ RdL3 wr p.a p.c p.zs ∧ (∀ x ∈ p.zs, Shrt x) ∧ p.zs.length ≤ NL ∧ gA < wr.heap.size := by
  obtain ⟨us, nB, O, F, e1, e2, e3, i3, bl⟩ := s
  have hlen : (ls.map LI.val).length = 5 := by have := i3.all.1; omega
  obtain ⟨gA, e, c⟩ := row1_cell (u := p.val) i3.all hlen.symm (by rw [List.getElem?_map, hp]; rfl)
  subst e
  exact ⟨gA, rfl, c, (i3.pen j p (Nat.le_refl _) hp).1.rdl2 (i3.dat j p hp).2.1, fun x hx => ((i3.dat j p hp).2.1 x hx).shrt, (i3.dat j p hp).2.2, (i3.all.lt gA rfl).2⟩
theorem InR.cellF (s : InR X0 wr N g NL q m vw ws Ds vf sB va ls j h) (hp : ls[j]? = some p) (hq : q ≠ 0) (hj : j < 5) : ∃ aF cF gF zs a c, vf = .slice aF 5 cF ∧ aF = some ⟨gF, 0, none⟩ ∧ wr.cell? ⟨gF, j, none⟩ = some (.slice a zs.length c) ∧ RdL3 wr a c zs ∧ p.zs.map EntD.dat = zs.map EntD.dat ∧ m = 5 := by
  obtain ⟨us, nB, O, F, e1, e2, e3, i3, bl⟩ := s
  rw [if_neg hq] at e2
  obtain ⟨aF, cF, hv⟩ := row_formW i3.out.row
  obtain ⟨u, hu⟩ : ∃ u, us[j]? = some u := ⟨_, List.getElem?_eq_getElem (by omega)⟩
  obtain ⟨zs, D, d1, d2, d3, d4, d5⟩ := i3.out.fst j u hu
  have r := i3.out.row
  rw [hv] at r
  obtain ⟨gF, e, c⟩ := row1_cell (u := u) r rfl hu
  obtain ⟨a, c', hz⟩ := rows_form3 d2.row
  subst hz
  have hd := (i3.dat j p hp).1
  rw [d1] at hd
  exact ⟨aF, cF, gF, zs, a, c', by rw [hv, e2], e, c, d2.rdl2 d4, by rw [← Option.some.inj hd, d3], by omega⟩
set_option maxRecDepth 100000 in
theorem InR.keeps (s : InR X0 wr N g NL q m vw ws Ds vf sB va ls j h) (hp : ls[j]? = some p) (hN : N ≤ wr.heap.size) (hL : NL ≤ 1048576) (hq : q ≤ 2) (hj : j < 5) (hh : q = 0 → h = j + 1) :
    Calls Try.prog 11 #[.pointer (some ⟨g, 0, none⟩), .slice p.a p.zs.length p.c] wr fun r w' => r = .returned (.tuple #[]) ∧ InR X0 w' N g NL q m vw ws Ds vf sB va ls (j + 1) (j + 1) := by
  obtain ⟨us, nB, O, F, e1, e2, e3, i3, bl⟩ := s
  have d := i3.dat j p hp
  have pe := i3.pen j p (Nat.le_refl _) hp
  have hq15 : q * 15728640 ≤ 2 * 15728640 := Nat.mul_le_mul_right _ hq
  have hj3 : j * 3145728 ≤ 5 * 3145728 := Nat.mul_le_mul_right _ (by omega)
  refine Calls.mono (bok_keep i3.out.bok hN pe.1 (pe.1.rdl2 d.2.1) (fun k hk => (pe.2 k hk).1) (i3.Qlt j p hp) d.2.1 (by have := d.2.2; omega) (by have := d.2.2; omega) (by omega)) ?_
  rintro r w' ⟨rfl, b, sp⟩
  refine ⟨rfl, us, _, _, F, e1, ?_, ?_, i3.kept hp sp b (fun k hk => hk), ?_⟩
  · rw [e2]
    by_cases z : q = 0
    · rw [if_pos z, if_pos z, hh z]
    · rw [if_neg z, if_neg z]
  · have := d.2.2
    omega
  · exact bl.trans (sp.far (fun k hk => (i3.out.bok.lo k hk).1) hN)
theorem InR.first {w1 w2 : World} {zs : List EntD} {v : Value} {a' : Option Addr} {n' c' : Nat} {us : List Value} {nB : Nat} {O F : Nat → Prop} (e1 : m = us.length) (e2 : us.length = j) (e3 : nB ≤ q * 15728640 + j * 3145728) (i3 : In3 wr N g NL vw ws Ds vf us nB (5 * q + j) sB (5 * q) O F va 5 ls j) (bl : Below N X0 wr) (hp : ls[j]? = some p) (hq : q = 0) (hN : N ≤ wr.heap.size) (cl : Cl wr w1 zs v) (hd : zs.map EntD.dat = p.zs.map EntD.dat) (en : n' = (us ++ [v]).length) (r2 : w2.ownsRow N 25 1 (.slice a' n' c') (us ++ [v]).length (us ++ [v])) (g2 : (w1.alloc (.cells #[v] 25)).grownBy w2 vf.ownBlock) (lo : ∀ k, (Value.slice a' n' c').ownBlock = some k → vf.ownBlock = some k ∨ w1.heap.size + 1 ≤ k) : InR X0 w2 N g NL q n' vw ws Ds (.slice a' n' c') sB va ls j (j + 1) := by
  refine ⟨us ++ [v], nB, O, _, en, ?_, e3, i3.first hp e2 hN cl hd r2 g2 lo, ?_⟩
  · rw [if_pos hq, List.length_append, e2]; rfl
  · have b1 : Below wr.heap.size wr (w1.alloc (.cells #[v] 25)) := cl.below.alloc cl.below.size _
    exact (bl.trans (b1.mono hN)).grown g2 (Nat.le_trans hN b1.size) (fun k hk => (i3.out.row.lt k hk).1)
set_option maxRecDepth 100000 in
theorem InR.spoils (s : InR X0 wr N g NL q m vw ws Ds vf sB va ls 5 h) (hN : N ≤ wr.heap.size) (hq : q ≤ 2) (hh : q = 0 → h = 5) :
    Calls Try.prog 12 #[.pointer (some ⟨g, 0, none⟩)] wr fun r w' => r = .returned (.tuple #[]) ∧ OutR X0 w' N g NL (q + 1) m vw ws Ds vf := by
  obtain ⟨us, nB, O, F, e1, e2, e3, i3, bl⟩ := s
  refine Calls.mono (bok_spoils i3.out.bok hN (by omega) (by omega)) ?_
  rintro r w' ⟨rfl, b, sp⟩
  refine ⟨rfl, us, nB, (fun k => O k ∨ (wr.heap.size ≤ k ∧ k < w'.heap.size)), F, e1, ?_, by omega, ?_, bl.trans (sp.far (fun k hk => (i3.out.bok.lo k hk).1) hN)⟩
  · rw [if_neg (by omega), e2]
    by_cases z : q = 0
    · rw [if_pos z, hh z]
    · rw [if_neg z]
  · have e5 : 5 * (q + 1) = 5 * q + 5 := by omega
    rw [e5]
    exact i3.out.side sp b (fun k hk z => by
      rcases hk with y | y
      · exact i3.out.disj k y z
      · have := (i3.out.Flt k z).2; omega)
theorem OutR.later (s : OutR X0 wr N g NL q m vw ws Ds vf) (hN : N ≤ wr.heap.size) (b : Below wr.heap.size wr w') : OutR X0 w' N g NL q m vw ws Ds vf := by
  obtain ⟨us, nB, O, F, e1, e2, e3, ot, bl⟩ := s
  exact ⟨us, nB, O, F, e1, e2, e3, ot.later b, bl.trans (b.mono hN)⟩
theorem OutR.stands (s : OutR X0 wr N g NL q m vw ws Ds vf) :
    Calls Try.prog 13 #[.pointer (some ⟨g, 0, none⟩)] wr fun r w' => r = .returned (.bool true) ∧ w' = wr := by
  obtain ⟨us, nB, O, F, e1, e2, e3, ot, bl⟩ := s
  exact bok_stands ot.bok
theorem OutR.wasR {aw : Option Addr} {cw : Nat} (s : OutR X0 wr N g NL q m (.slice aw NL cw) ws Ds vf) (hl : ws.length = NL) (hb : ∀ e ∈ ws.map EntD.dat, ByE e) : RdL3 wr aw cw ws := by
  obtain ⟨us, nB, O, F, e1, e2, e3, ot, bl⟩ := s
  have := ot.was
  rw [← hl] at this
  exact this.rdl3 hb
theorem OutR.bel (s : OutR X0 wr N g NL q m vw ws Ds vf) : Below N X0 wr := by
  obtain ⟨us, nB, O, F, e1, e2, e3, ot, bl⟩ := s
  exact bl
theorem InR.five (s : InR X0 wr N g NL q m vw ws Ds vf sB va ls j h) : ls.length = 5 := by
  obtain ⟨us, nB, O, F, e1, e2, e3, i3, bl⟩ := s
  have := i3.all.1
  rw [List.length_map] at this
  omega
end
end Go.Proofs.Ythhkpkfpifllkaa
