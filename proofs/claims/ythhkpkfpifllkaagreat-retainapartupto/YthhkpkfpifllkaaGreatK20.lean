import Derived.Test.YthhkpkfpifllkaaGreatK19
namespace Go.Proofs.YthhkpkfpifllkaaGreat
open Go.RowKit
set_option linter.unusedVariables false

noncomputable def ordOf (k : Nat) (l : List En) : List En := @dite _ (∃ m, IsOrd k l m) (Classical.propDecidable _) (fun h => Classical.choose h) (fun _ => [])
theorem ordOf_eq {k : Nat} {l m : List En} (h : IsOrd k l m) : ordOf k l = m := by
  have hx : ∃ m, IsOrd k l m := ⟨m, h⟩
  unfold ordOf
  rw [dif_pos hx]
  exact (Classical.choose_spec hx).unique h
def SmE (e : En) : Prop := ByE e ∧ e.row.length ≤ 256 ∧ e.qual.length ≤ 256 ∧ e.val.length ≤ 4096
theorem IsOrd.sm {k : Nat} {l m : List En} (h : IsOrd k l m) (hb : ∀ e ∈ l, ByE e) : ∀ e ∈ m, SmE e := fun e he => by
  have ck := check_zero.1 (h.ck e he)
  simp only [EntD.ofEn] at ck
  refine ⟨hb e ((h.mem e).1 he), ?_, ?_, ?_⟩
  · have := ck.1.1; omega
  · have := ck.1.2.2.1; omega
  · have := ck.1.2.2.2.2.2.2; omega
theorem tld_sm (m : List En) {e : En} (h : SmE e) : SmE (tld m e) := by
  obtain ⟨a1, a2, a3, a4, a5, a6, a7⟩ := tld_eq m e
  unfold SmE
  rw [a1, a3, a6]
  exact ⟨tld_by m h.1, h.2⟩
theorem sm_out {fs : List (Int × Int)} {clock low : Int} {k : Nat} {l m : List En} {major : Bool} (h : IsOrd k l m) (hb : ∀ e ∈ l, ByE e) : ∀ e ∈ outS major low (verdictsS fs clock m), SmE e := by
  rw [out_tld h.ah h.va]
  intro e he
  obtain ⟨x, hx, rfl⟩ := List.mem_map.1 he
  exact tld_sm m (h.sm hb x (List.mem_filter.1 hx).1)
theorem sm_show {fs : List FamD} {clock t n : Int} {l m : List En} (hS : SchemaOk fs) (ho : IsOrd fs.length l m) (hb : ∀ e ∈ l, ByE e) : ∀ e ∈ (showS t n (verdictsS (mt fs) clock m)).2, SmE e := fun e he => by
  have key : ∀ (vs : List Vd) (s : Int × List En), e ∈ (vs.foldl (showStep t n) s).2 → e ∈ s.2 ∨ ∃ v ∈ vs, v.e = e := by
    intro vs
    induction vs with
    | nil => intro s h; exact .inl h
    | cons v vs ih =>
      intro s h
      rw [List.foldl_cons] at h
      rcases ih _ h with q | ⟨u, hu, q⟩
      · unfold showStep at q
        generalize (if v.rank = 1 then (0 : Int) else s.1) = q9 at q
        split at q
        · rcases List.mem_append.1 q with q | q
          · exact .inl q
          · rw [List.mem_singleton] at q
            exact .inr ⟨v, List.mem_cons_self, q.symm⟩
        · exact .inl q
      · exact .inr ⟨u, List.mem_cons_of_mem _ hu, q⟩
  rw [show_five (ho.max hS) ho.ah ho.va] at he
  rcases key _ _ he with q | ⟨v, hv, rfl⟩
  · cases q
  · obtain ⟨e', he', rfl⟩ := List.mem_map.1 hv
    obtain ⟨x, hx, rfl⟩ := List.mem_map.1 he'
    exact tld_sm _ (ho.sm hb x (List.mem_filter.1 hx).1)
theorem Rw.rng {W : World} {N : Nat} {v : Value} {zs : List EntD} {O : Nat → Prop} (h : Rw W N v zs O) : Rw W N v zs (fun i => N ≤ i ∧ i < W.heap.size) :=
  ⟨h.row, h.ents, h.ap, fun k hk => h.row.lt k hk, fun x hx k hk => by
    rcases hk with z | z | z
    · exact (h.ents x hx).row.2.lt k z
    · exact (h.ents x hx).qual.2.lt k z
    · exact (h.ents x hx).val.2.lt k z⟩
structure OwL (Z Z' : World) (n : Nat) (D : List En) (a : Option Addr) (c : Nat) (zs : List EntD) : Prop where
  rw_ : Rw Z' Z.heap.size (.slice a zs.length c) zs (fun i => Z.heap.size ≤ i ∧ i < Z'.heap.size)
  rd : RdL3 Z' a c zs
  dat : zs.map EntD.dat = D
  len : zs.length ≤ n
  sm : ∀ x ∈ zs, SmE x.dat
theorem owL_nil (Z Z' : World) (n : Nat) : OwL Z Z' n [] none 0 [] := ⟨Rw.nil _ _ _, ⟨⟨Nat.le_refl _, Nat.zero_le _⟩, .inl rfl, fun x hx => by cases hx⟩, rfl, Nat.zero_le _, fun x hx => by cases hx⟩
theorem owL_of {Z Z' : World} {n : Nat} {D : List En} {v : Value} {zs : List EntD} {O : Nat → Prop} (h : Rw Z' Z.heap.size v zs O) (hd : zs.map EntD.dat = D) (hl : zs.length ≤ n) (hs : ∀ e ∈ D, SmE e) : ∃ a c, v = .slice a zs.length c ∧ OwL Z Z' n D a c zs := by
  have sm : ∀ x ∈ zs, SmE x.dat := fun x hx => hs _ (by rw [← hd]; exact List.mem_map_of_mem hx)
  obtain ⟨a, c, hv, _, hrd⟩ := h.rdl (fun x hx => (sm x hx).1)
  subst hv
  exact ⟨a, c, rfl, h.rng, hrd, hd, hl, sm⟩
section
variable {W : World} {cap fc : Nat} {a fa : Option Addr} {fs : List FamD} {l : List EntD}
noncomputable def dSort (l : List EntD) : List En := if inOrderE chkC l = 0 then ordOf 8 (l.map EntD.dat) else []
theorem own_sort (h0 : RdL3 W a cap l) (hl : l.length ≤ 1353245080300) :
    Calls Tryz.prog 15 #[.slice a l.length cap] W fun r W' => ∃ (zs : List EntD) (a' : Option Addr) (c' : Nat) (E : Int), r = .returned (.tuple #[.slice a' zs.length c', .int .i64 E]) ∧ OwL W W' l.length (dSort l) a' c' zs ∧ Below W.heap.size W W' := by
  refine Calls.mono (sort_any h0 hl) ?_
  rintro r W' ⟨h1, h2, h3⟩
  by_cases hz : inOrderE chkC l = 0
  · obtain ⟨zs, m, v, O, k1, k2, k3, k4, k5, k6⟩ := h3 hz
    obtain ⟨a', c', hv, ow⟩ := owL_of (n := l.length) k3 k5 k6 (k1.sm h0.by)
    refine ⟨zs, a', c', 0, by rw [k2, hv], ?_, h1⟩
    rw [dSort, if_pos hz, ordOf_eq k1]
    exact ow
  · refine ⟨[], none, 0, _, h2 hz, ?_, h1⟩
    rw [dSort, if_neg hz]
    exact owL_nil _ _ _
noncomputable def dSq (C : Nat) (fs : List FamD) (clock low : Int) (major : Bool) (l : List EntD) : List En := if squashE C fs clock low l = 0 then outS major low (verdictsS (mt fs) clock (ordOf fs.length (l.map EntD.dat))) else []
theorem own_squash (hr : RdF W (.slice fa fs.length fc) fs) (hn : fa = none → fc = 0) (C : Nat) (hC : (C = 0 ↔ SchemaOk fs) ∧ (C = 0 ∨ C = 28)) (clock low : Int) (major : Bool) (h0 : RdL3 W a cap l) (hl : l.length ≤ 1353245080300) :
    Calls Tryz.prog 23 #[.agg #[.slice fa fs.length fc], .int .i64 clock, .bool major, .int .i64 low, .slice a l.length cap] W fun r W' => ∃ (zs : List EntD) (a' : Option Addr) (c' : Nat) (E : Int), r = .returned (.tuple #[.slice a' zs.length c', .int .i64 E]) ∧ OwL W W' l.length (dSq C fs clock low major l) a' c' zs ∧ Below W.heap.size W W' := by
  refine Calls.mono (squash_all hr hn C hC clock low major h0 hl) ?_
  rintro r W' ⟨h1, h2, h3⟩
  by_cases hz : squashE C fs clock low l = 0
  · obtain ⟨zs, m, v, O, k1, k2, k3, k5, k6⟩ := h3 hz
    obtain ⟨a', c', hv, ow⟩ := owL_of (n := l.length) k3 k5 k6 (sm_out k1 h0.by)
    refine ⟨zs, a', c', 0, by rw [k2, hv], ?_, h1⟩
    rw [dSq, if_pos hz, ordOf_eq k1]
    exact ow
  · refine ⟨[], none, 0, _, h2 hz, ?_, h1⟩
    rw [dSq, if_neg hz]
    exact owL_nil _ _ _
noncomputable def dRd (C : Nat) (fs : List FamD) (clock t n : Int) (l : List EntD) : List En := if readE C fs clock t n l = 0 then (showS t n (verdictsS (mt fs) clock (ordOf fs.length (l.map EntD.dat)))).2 else []
theorem readE_zero {C : Nat} {clock t n : Int} (hz : readE C fs clock t n l = 0) : C = 0 ∧ inOrderE (check3S fs.length) l = 0 := by
  unfold readE at hz
  by_cases y : readerS C clock t n = 0
  · rw [if_neg (by simpa using y)] at hz
    refine ⟨?_, hz⟩
    unfold readerS at y
    by_cases b : boundsS C [clock, t] = 0
    · unfold boundsS at b
      by_cases c : C = 0
      · exact c
      · rw [if_pos c] at b; omega
    · rw [if_pos b] at y; exact absurd y b
  · rw [if_pos y] at hz; exact absurd hz y
theorem own_read_of {W' : World} {clock t n : Int} (C : Nat) (hC : (C = 0 ↔ SchemaOk fs) ∧ (C = 0 ∨ C = 28)) (h0 : RdL3 W a cap l) (hz : readE C fs clock t n l = 0) {xs ys zs : List EntD} {v : Value} {O : Nat → Prop} (k1 : onceS l = some xs) (k2 : ys.Perm xs) (k3 : ys.Pairwise fun x y => compareS x y ≤ 0) (k5 : Rw W' W.heap.size v zs O) (k6 : zs.map EntD.dat = (showS t n (verdictsS (mt fs) clock (ys.map EntD.dat))).2) : ∃ a' c', v = .slice a' zs.length c' ∧ OwL W W' l.length (dRd C fs clock t n l) a' c' zs := by
  obtain ⟨hc0, hi⟩ := readE_zero hz
  have ho := isOrd_of hi k1 k2 k3
  rw [dRd, if_pos hz, ordOf_eq ho]
  refine owL_of k5 k6 ?_ (sm_show (hC.1.1 hc0) ho h0.by)
  have e := congrArg List.length k6
  rw [List.length_map] at e
  rw [e]
  refine Nat.le_trans (show_len _ _ _) (Nat.le_trans (verd_len _) ?_)
  rw [List.length_map, k2.length_eq]
  exact onceS_len k1
theorem own_read (hr : RdF W (.slice fa fs.length fc) fs) (hn : fa = none → fc = 0) (C : Nat) (hC : (C = 0 ↔ SchemaOk fs) ∧ (C = 0 ∨ C = 28)) (clock t n : Int) (h0 : RdL3 W a cap l) (hl : l.length ≤ 1353245080300) :
    Calls Tryz.prog 21 #[.agg #[.slice fa fs.length fc], .int .i64 clock, .int .i64 t, .int .i64 n, .slice a l.length cap] W fun r W' => ∃ (zs : List EntD) (a' : Option Addr) (c' : Nat) (E : Int), r = .returned (.tuple #[.slice a' zs.length c', .int .i64 E]) ∧ OwL W W' l.length (dRd C fs clock t n l) a' c' zs ∧ Below W.heap.size W W' := by
  refine Calls.mono (read_any sort_ok hr hn C hC clock t n h0 hl) ?_
  rintro r W' ⟨h1, h2, h3⟩
  by_cases hz : readE C fs clock t n l = 0
  · obtain ⟨xs, ys, zs, v, O, k1, k2, k3, k4, k5, k6⟩ := h3 hz
    obtain ⟨a', c', hv, ow⟩ := own_read_of C hC h0 hz k1 k2 k3 k5 k6
    exact ⟨zs, a', c', 0, by rw [k4, hv], ow, h1⟩
  · refine ⟨[], none, 0, _, h2 hz, ?_, h1⟩
    rw [dRd, if_neg hz]
    exact owL_nil _ _ _
theorem own_vis (hr : RdF W (.slice fa fs.length fc) fs) (hn : fa = none → fc = 0) (C : Nat) (hC : (C = 0 ↔ SchemaOk fs) ∧ (C = 0 ∨ C = 28)) (clock : Int) (h0 : RdL3 W a cap l) (hl : l.length ≤ 1353245080300) :
    Calls Tryz.prog 19 #[.agg #[.slice fa fs.length fc], .int .i64 clock, .slice a l.length cap] W fun r W' => ∃ (zs : List EntD) (a' : Option Addr) (c' : Nat) (E : Int), r = .returned (.tuple #[.slice a' zs.length c', .int .i64 E]) ∧ OwL W W' l.length (dRd C fs clock 1099511627776 16 l) a' c' zs ∧ Below W.heap.size W W' := by
  refine Calls.mono (vis_any sort_ok hr hn C hC clock h0 hl) ?_
  rintro r W' ⟨h1, h2, h3⟩
  by_cases hz : readE C fs clock 1099511627776 16 l = 0
  · obtain ⟨xs, ys, zs, v, O, k1, k2, k3, k4, k5, k6⟩ := h3 hz
    obtain ⟨a', c', hv, ow⟩ := own_read_of C hC h0 hz k1 k2 k3 k5 k6
    exact ⟨zs, a', c', 0, by rw [k4, hv], ow, h1⟩
  · refine ⟨[], none, 0, _, h2 hz, ?_, h1⟩
    rw [dRd, if_neg hz]
    exact owL_nil _ _ _
end
end Go.Proofs.YthhkpkfpifllkaaGreat

namespace Go.Proofs.YthhkpkfpifllkaaGreat
open Go.RowKit
set_option linter.unusedVariables false

def items (xs : List EntD) : List BI := (xs.map fun x => [BI.mk x.vr x.row.length x.row, BI.mk x.vq x.qual.length x.qual, BI.mk x.vv x.val.length x.val]).flatten
theorem items_cons (x : EntD) (xs : List EntD) : items (x :: xs) = BI.mk x.vr x.row.length x.row :: BI.mk x.vq x.qual.length x.qual :: BI.mk x.vv x.val.length x.val :: items xs := by simp [items]
theorem items_len (xs : List EntD) : (items xs).length = 3 * xs.length := by
  induction xs with
  | nil => rfl
  | cons x xs ih => rw [items_cons]; simp only [List.length_cons, ih]; omega
theorem items_v (xs : List EntD) : (items xs).map BI.v = flat3 xs := by
  induction xs with
  | nil => rfl
  | cons x xs ih => rw [items_cons, List.map_cons, List.map_cons, List.map_cons, ih]; simp [flat3]
theorem items_mem {xs : List EntD} {p : BI} (h : p ∈ items xs) : ∃ x ∈ xs, (p.v = x.vr ∧ p.n = x.row.length ∧ p.l = x.row) ∨ (p.v = x.vq ∧ p.n = x.qual.length ∧ p.l = x.qual) ∨ (p.v = x.vv ∧ p.n = x.val.length ∧ p.l = x.val) := by
  induction xs with
  | nil => cases h
  | cons x xs ih =>
    rw [items_cons] at h
    rcases List.mem_cons.1 h with rfl | h
    · exact ⟨x, List.mem_cons_self, .inl ⟨rfl, rfl, rfl⟩⟩
    rcases List.mem_cons.1 h with rfl | h
    · exact ⟨x, List.mem_cons_self, .inr (.inl ⟨rfl, rfl, rfl⟩)⟩
    rcases List.mem_cons.1 h with rfl | h
    · exact ⟨x, List.mem_cons_self, .inr (.inr ⟨rfl, rfl, rfl⟩)⟩
    obtain ⟨y, hy, z⟩ := ih h
    exact ⟨y, List.mem_cons_of_mem _ hy, z⟩
def ApI (p q : BI) : Prop := ∀ k, p.v.ownBlock = some k → q.v.ownBlock ≠ some k
theorem ApI.symm {p q : BI} (h : ApI p q) : ApI q p := fun k hk z => h k z hk
theorem items_ap {w : World} {N : Nat} {xs : List EntD} (h1 : ∀ x ∈ xs, O3 w N x) (h2 : xs.Pairwise Dsj) : (items xs).Pairwise ApI := by
  induction xs with
  | nil => exact List.Pairwise.nil
  | cons x xs ih =>
    have o := h1 x List.mem_cons_self
    obtain ⟨hd, ht⟩ := List.pairwise_cons.1 h2
    have far : ∀ p ∈ items xs, ∀ k, (x.vr.ownBlock = some k ∨ x.vq.ownBlock = some k ∨ x.vv.ownBlock = some k) → p.v.ownBlock ≠ some k := fun p hp k hk z => by
      obtain ⟨y, hy, c⟩ := items_mem hp
      refine hd y hy k hk ?_
      rcases c with c | c | c
      · exact .inl (c.1 ▸ z)
      · exact .inr (.inl (c.1 ▸ z))
      · exact .inr (.inr (c.1 ▸ z))
    rw [items_cons]
    refine List.pairwise_cons.2 ⟨fun p hp => ?_, List.pairwise_cons.2 ⟨fun p hp => ?_, List.pairwise_cons.2 ⟨fun p hp => ?_, ih (fun y hy => h1 y (List.mem_cons_of_mem _ hy)) ht⟩⟩⟩
    · rcases List.mem_cons.1 hp with rfl | hp
      · exact o.arq
      rcases List.mem_cons.1 hp with rfl | hp
      · exact o.arv
      exact fun k hk => far p hp k (.inl hk)
    · rcases List.mem_cons.1 hp with rfl | hp
      · exact o.aqv
      exact fun k hk => far p hp k (.inr (.inl hk))
    · exact fun k hk => far p hp k (.inr (.inr hk))
theorem pw_at {α : Type} {R : α → α → Prop} (hs : ∀ a b, R a b → R b a) {l : List α} (h : l.Pairwise R) {i j : Nat} {a b : α} (ha : l[i]? = some a) (hb : l[j]? = some b) (hne : i ≠ j) : R a b := by
  obtain ⟨hi, ea⟩ := List.getElem?_eq_some_iff.1 ha
  obtain ⟨hj, eb⟩ := List.getElem?_eq_some_iff.1 hb
  rw [← ea, ← eb]
  by_cases hlt : i < j
  · exact List.pairwise_iff_getElem.1 h i j hi hj hlt
  · exact hs _ _ (List.pairwise_iff_getElem.1 h j i hj hi (by omega))
theorem app_at {α : Type} {l m : List α} {y : α} {i : Nat} (h : (l ++ m)[i]? = some y) : (i < l.length ∧ l[i]? = some y) ∨ (l.length ≤ i ∧ m[i - l.length]? = some y) := by
  by_cases hi : i < l.length
  · rw [List.getElem?_append_left hi] at h; exact .inl ⟨hi, h⟩
  · rw [List.getElem?_append_right (by omega)] at h; exact .inr ⟨by omega, h⟩
section
variable {w w' : World} {N g : Nat} {aE aG aB aH : Option Addr} {cE cG cB cH : Nat} {tl : List Value} {ty : TypeId} {bi : List BI} {ei : List EI} {hs gs : List Value} {O Q : Nat → Prop}
theorem Bq.kr (h : Bq w N g aE aG aB aH cE cG cB cH tl ty bi ei hs gs O) : Kr w N g (.slice aE ei.length cE) (.slice aG gs.length cG) (.slice aB bi.length cB) (.slice aH hs.length cH) tl ty (ei.map EI.v) (bi.map BI.v) :=
  ⟨h.bp.box, by have := h.bp.rE; rw [List.length_map]; exact this, by have := h.bp.rB; rw [List.length_map]; exact this, h.bp.tys.1, h.bp.tys.2.1, h.bp.tys.2.2.1⟩
theorem Bq.kept {al : Option Addr} {cl : Nat} {xs : List EntD} (h : Bq w N g aE aG aB aH cE cG cB cH tl ty bi ei hs gs O) (hO : ∀ k, O k → k < w.heap.size) (hR : Rw w N (.slice al xs.length cl) xs Q) (hQ : ∀ k, Q k → ¬ O k) (sm : ∀ x ∈ xs, SmE x.dat) (hx : xs.length ≤ 274877906944) (hb : bi.length + 3 * xs.length + 3 ≤ 5864062014805) (he : ei.length + 1 ≤ 5864062014805)
    (hk : KeepP w w' N g (.slice aE ei.length cE) (.slice aG gs.length cG) (.slice aB bi.length cB) (.slice aH hs.length cH) tl ty (ei.map EI.v ++ [.slice al xs.length cl]) (bi.map BI.v ++ flat3 xs)) :
    ∃ aE' aB' cE' cB', Bq w' N g aE' aG aB' aH cE' cG cB' cH tl ty (bi ++ items xs) (ei ++ [EI.mk (.slice al xs.length cl) xs.length xs]) hs gs (fun k => O k ∨ Q k ∨ (w.heap.size ≤ k ∧ k < w'.heap.size)) ∧ SpF w w' O := by
  obtain ⟨vE, vB, kr, lE, lB, sp⟩ := hk
  have lenB : (bi.map BI.v ++ flat3 xs).length = (bi ++ items xs).length := by rw [← items_v, ← List.map_append, List.length_map]
  have lenE : (ei.map EI.v ++ [Value.slice al xs.length cl]).length = (ei ++ [EI.mk (.slice al xs.length cl) xs.length xs]).length := by simp
  have rB := kr.rB
  have rE := kr.rE
  have box := kr.box
  obtain ⟨aB', cB', rfl⟩ := row_formW rB
  obtain ⟨aE', cE', rfl⟩ := row_formW rE
  rw [lenB] at rB box lB
  rw [lenE] at rE box lE
  have eB : (bi ++ items xs).map BI.v = bi.map BI.v ++ flat3 xs := by rw [List.map_append, items_v]
  have eE : (ei ++ [EI.mk (.slice al xs.length cl) xs.length xs]).map EI.v = ei.map EI.v ++ [Value.slice al xs.length cl] := by simp
  have tg : Tyd w g ty := h.bp.box.tyd
  have tys := h.bp.tys
  have tE : ∀ k, (Value.slice aE ei.length cE).ownBlock = some k → Tyd w k 28 := fun k hk => row_tyd h.bp.rE hk
  have tB : ∀ k, (Value.slice aB bi.length cB).ownBlock = some k → Tyd w k 82 := fun k hk => row_tyd h.bp.rB hk
  have kt : ∀ x ty', Tyd w x ty' → ty' ≠ ty → ty' ≠ 28 → ty' ≠ 82 → w'.heap[x]? = w.heap[x]? := fun x ty' hx n1 n2 n3 => sp.block x hx.lt (fun z => by
    rcases z with z | z | z
    · exact hx.ne tg n1 z
    · exact (tE x z).ne hx (fun y => n2 y.symm) rfl
    · exact (tB x z).ne hx (fun y => n3 y.symm) rfl)
  have kU : ∀ x, Tyd w x 5 → w'.heap[x]? = w.heap[x]? := fun x hx => kt x _ hx (fun z => tys.2.2.2 z.symm) (by decide) (by decide)
  have kN : ∀ x, Tyd w x 84 → w'.heap[x]? = w.heap[x]? := fun x hx => kt x _ hx (fun z => tys.2.2.1 z.symm) (by decide) (by decide)
  have kH : ∀ k, (Value.slice aH hs.length cH).ownBlock = some k → w'.heap[k]? = w.heap[k]? := fun k hk => sp.block k (h.rH.lt k hk).2 (fun z => by
    rcases z with z | z | z
    · exact (row_tyd h.rH hk).ne tg (fun y => tys.1 y.symm) z
    · exact (tE k z).ne (row_tyd h.rH hk) (by decide) rfl
    · exact h.apBH k z hk)
  have kG : ∀ k, (Value.slice aG gs.length cG).ownBlock = some k → w'.heap[k]? = w.heap[k]? := fun k hk => sp.block k (h.rG.lt k hk).2 (fun z => by
    rcases z with z | z | z
    · exact (row_tyd h.rG hk).ne tg (fun y => tys.2.1 y.symm) z
    · exact h.apEG k z hk
    · exact (tB k z).ne (row_tyd h.rG hk) (by decide) rfl)
  have nQ : ∀ p ∈ items xs, ∀ k, p.v.ownBlock = some k → Q k := fun p hp k hk => by
    obtain ⟨x, hx, c⟩ := items_mem hp
    refine hR.entO x hx k ?_
    rcases c with c | c | c
    · exact .inl (c.1 ▸ hk)
    · exact .inr (.inl (c.1 ▸ hk))
    · exact .inr (.inr (c.1 ▸ hk))
  have pwI := items_ap hR.ents hR.ap
  have hlb : (bi ++ items xs).length = bi.length + 3 * xs.length := by rw [List.length_append, items_len]
  have hle : (ei ++ [EI.mk (.slice al xs.length cl) xs.length xs]).length = ei.length + 1 := by simp
  refine ⟨aE', aB', cE', cB', ⟨⟨box, by rw [eB]; exact rB, by rw [eE]; exact rE, tys, fun i p hp => ?_, fun i p hp => ?_, fun i j p q hp hq hne k hk => ?_, fun i j p q hp hq hne k hk => ?_, ⟨fun i p hp => ?_, fun i p hp => ?_⟩, ?_⟩, row_same h.rH kH, row_same h.rG kG, fun k hk z => ?_, fun k hk z => ?_, fun i p v hp hv => ?_, fun i p v hp hv => ?_, fun i j p v hp hv hne k hk => ?_, h.apHH, fun i j p v hp hv hne k hk => ?_, h.apGG, fun i p hi hp => ?_, fun i p hi hp => ?_, ⟨.inl h.inR.1, fun k hk => ?_, fun k hk => ?_, fun k hk => .inl (h.inR.2.2.2.1 k hk), fun k hk => .inl (h.inR.2.2.2.2 k hk)⟩, fun i p hp k hk => ?_, fun i p hp k hk => ?_, fun i v hv k hk => .inl (h.inH i v hv k hk), fun i v hv k hk => .inl (h.inG i v hv k hk)⟩, sp.mono (fun k _ z => ?_)⟩
  -- oB
  · rcases app_at hp with ⟨_, hp⟩ | ⟨_, hp⟩
    · have o := h.bp.oB i p hp
      exact own_same o (fun k hk => kU k (row_tyd o.2 hk))
    · obtain ⟨x, hx, c⟩ := items_mem (List.mem_of_getElem? hp)
      have o3 := hR.ents x hx
      rcases c with ⟨c1, c2, c3⟩ | ⟨c1, c2, c3⟩ | ⟨c1, c2, c3⟩
      · rw [c1, c2, c3]; exact own_same o3.row (fun k hk => kU k (row_tyd o3.row.2 hk))
      · rw [c1, c2, c3]; exact own_same o3.qual (fun k hk => kU k (row_tyd o3.qual.2 hk))
      · rw [c1, c2, c3]; exact own_same o3.val (fun k hk => kU k (row_tyd o3.val.2 hk))
  -- oE
  · rcases snoc_at hp with ⟨_, hp⟩ | ⟨_, rfl⟩
    · have o := h.bp.oE i p hp
      exact ⟨row_same o.1 (fun k hk => kN k (row_tyd o.1 hk)), o.2⟩
    · exact ⟨row_same hR.row (fun k hk => kN k (row_tyd hR.row hk)), rfl⟩
  -- apB
  · rcases app_at hp with ⟨_, hp⟩ | ⟨_, hp⟩
    · rcases app_at hq with ⟨_, hq⟩ | ⟨_, hq⟩
      · exact h.bp.apB i j p q hp hq hne k hk
      · exact fun z => hQ k (nQ q (List.mem_of_getElem? hq) k z) (h.inB i p hp k hk)
    · rcases app_at hq with ⟨_, hq⟩ | ⟨_, hq⟩
      · exact fun z => hQ k (nQ p (List.mem_of_getElem? hp) k hk) (h.inB j q hq k z)
      · exact pw_at (fun a b => ApI.symm) pwI hp hq (by omega) k hk
  -- apE
  · rcases snoc_at hp with ⟨_, hp⟩ | ⟨e1, rfl⟩
    · rcases snoc_at hq with ⟨_, hq⟩ | ⟨e2, rfl⟩
      · exact h.bp.apE i j p q hp hq hne k hk
      · exact fun z => hQ k (hR.rowO k z) (h.inE i p hp k hk)
    · rcases snoc_at hq with ⟨_, hq⟩ | ⟨e2, rfl⟩
      · exact fun z => hQ k (hR.rowO k hk) (h.inE j q hq k z)
      · omega
  -- len
  · rcases app_at hp with ⟨_, hp⟩ | ⟨_, hp⟩
    · exact h.bp.len.1 i p hp
    · obtain ⟨x, hx, c⟩ := items_mem (List.mem_of_getElem? hp)
      have s := (sm x hx).2
      simp only [EntD.dat] at s
      rcases c with ⟨c1, c2, c3⟩ | ⟨c1, c2, c3⟩ | ⟨c1, c2, c3⟩ <;> rw [c2] <;> omega
  · rcases snoc_at hp with ⟨_, hp⟩ | ⟨_, rfl⟩
    · exact h.bp.len.2 i p hp
    · exact hx
  · have := h.bp.few
    omega
  -- apBH, apEG
  · rcases lB k hk with y | y
    · exact h.apBH k y z
    · have := (h.rH.lt k z).2; omega
  · rcases lE k hk with y | y
    · exact h.apEG k y z
    · have := (h.rG.lt k z).2; omega
  -- oH, oG
  · have hi := idx_lt hv
    have := h.bp.few
    rcases app_at hp with ⟨_, hp⟩ | ⟨h2, hp⟩
    · have o := h.oH i p v hp hv
      exact own_same o (fun k hk => kU k (row_tyd o.2 hk))
    · omega
  · have hi := idx_lt hv
    have := h.bp.few
    rcases snoc_at hp with ⟨_, hp⟩ | ⟨h2, rfl⟩
    · have o := h.oG i p v hp hv
      exact row_same o (fun k hk => kN k (row_tyd o hk))
    · omega
  -- apH, apG
  · rcases app_at hp with ⟨_, hp⟩ | ⟨_, hp⟩
    · exact h.apH i j p v hp hv hne k hk
    · exact fun z => hQ k (nQ p (List.mem_of_getElem? hp) k hk) (h.inH j v hv k z)
  · rcases snoc_at hp with ⟨_, hp⟩ | ⟨_, rfl⟩
    · exact h.apG i j p v hp hv hne k hk
    · exact fun z => hQ k (hR.rowO k hk) (h.inG j v hv k z)
  -- dB, dE
  · have := h.bp.few
    rcases app_at hp with ⟨_, hp⟩ | ⟨h2, hp⟩
    · exact h.dB i p hi hp
    · omega
  · have := h.bp.few
    rcases snoc_at hp with ⟨_, hp⟩ | ⟨h2, rfl⟩
    · exact h.dE i p hi hp
    · omega
  -- in
  · rcases lB k hk with y | y
    · exact .inl (h.inR.2.1 k y)
    · exact .inr (.inr ⟨y, (rB.lt k hk).2⟩)
  · rcases lE k hk with y | y
    · exact .inl (h.inR.2.2.1 k y)
    · exact .inr (.inr ⟨y, (rE.lt k hk).2⟩)
  · rcases app_at hp with ⟨_, hp⟩ | ⟨_, hp⟩
    · exact .inl (h.inB i p hp k hk)
    · exact .inr (.inl (nQ p (List.mem_of_getElem? hp) k hk))
  · rcases snoc_at hp with ⟨_, hp⟩ | ⟨_, rfl⟩
    · exact .inl (h.inE i p hp k hk)
    · exact .inr (.inl (hR.rowO k hk))
  · rcases z with rfl | z | z
    · exact h.inR.1
    · exact h.inR.2.2.1 k z
    · exact h.inR.2.1 k z
end
def Bok (w : World) (N g : Nat) (tl : List Value) (ty : TypeId) (nB nE sB sE : Nat) (O : Nat → Prop) : Prop := ∃ aE aG aB aH cE cG cB cH bi ei hs gs, Bq w N g aE aG aB aH cE cG cB cH tl ty bi ei hs gs O ∧ bi.length = nB ∧ ei.length = nE ∧ hs.length = sB ∧ gs.length = sE ∧ ∀ k, O k → N ≤ k ∧ k < w.heap.size
section
variable {w w' : World} {N g nB nE sB sE : Nat} {tl : List Value} {ty : TypeId} {O Q : Nat → Prop}
theorem Bok.keep (h : Bok w N g tl ty nB nE sB sE O) (k : ∀ i, O i → w'.heap[i]? = w.heap[i]?) (hs : w.heap.size ≤ w'.heap.size) : Bok w' N g tl ty nB nE sB sE O := by
  obtain ⟨aE, aG, aB, aH, cE, cG, cB, cH, bi, ei, hs', gs, q, e1, e2, e3, e4, lo⟩ := h
  exact ⟨aE, aG, aB, aH, cE, cG, cB, cH, bi, ei, hs', gs, q.keep k, e1, e2, e3, e4, fun i hi => ⟨(lo i hi).1, Nat.lt_of_lt_of_le (lo i hi).2 hs⟩⟩
theorem bok_spoils (h : Bok w N g tl ty nB nE sB sE O) (hN : N ≤ w.heap.size) (hb : nB + 1 ≤ 5864062014805) (he : nE + 1 ≤ 5864062014805) :
    Calls Tryz.prog 40 #[.pointer (some ⟨g, 0, none⟩)] w fun r w' => r = .returned (.tuple #[]) ∧ Bok w' N g tl ty nB nE nB nE (fun k => O k ∨ (w.heap.size ≤ k ∧ k < w'.heap.size)) ∧ SpF w w' O := by
  obtain ⟨aE, aG, aB, aH, cE, cG, cB, cH, bi, ei, hs, gs, q, e1, e2, e3, e4, lo⟩ := h
  refine Calls.mono (bspoils_any q (fun k hk => (lo k hk).2) hN (by rw [e1]; exact hb) (by rw [e2]; exact he)) ?_
  rintro r w' ⟨rfl, aG', aH', cG', cH', bi', ei', hs', gs', q', l1, l2, l3, l4, sp⟩
  refine ⟨rfl, ⟨aE, aG', aB, aH', cE, cG', cB, cH', bi', ei', hs', gs', q', l3.trans e1, l4.trans e2, l1.trans (l3.trans e1), l2.trans (l4.trans e2), fun k hk => ?_⟩, sp⟩
  rcases hk with z | z
  · exact ⟨(lo k z).1, Nat.lt_of_lt_of_le (lo k z).2 sp.size⟩
  · exact ⟨Nat.le_trans hN z.1, z.2⟩
theorem bok_stands (h : Bok w N g tl ty nB nE nB nE O) :
    Calls Tryz.prog 41 #[.pointer (some ⟨g, 0, none⟩)] w fun r w' => r = .returned (.bool true) ∧ w' = w := by
  obtain ⟨aE, aG, aB, aH, cE, cG, cB, cH, bi, ei, hs, gs, q, e1, e2, e3, e4, lo⟩ := h
  exact q.stands (e3.trans e1.symm) (e4.trans e2.symm)
end
end Go.Proofs.YthhkpkfpifllkaaGreat

namespace Go.Proofs.YthhkpkfpifllkaaGreat
open Go.RowKit
set_option linter.unusedVariables false

theorem KBx.c5 {w : World} {g : Nat} {vE vG vB vH vW : Value} {ty : TypeId} (h : KBx w g vE vG vB vH [vW] ty) : w.cell? ⟨g, 5, none⟩ = some vW := by unfold KBx at h; simp [World.cell?, h]
theorem KBx.setW {w : World} {g : Nat} {vE vG vB vH vW : Value} {ty : TypeId} (h : KBx w g vE vG vB vH [vW] ty) (u : Value) : KBx (w.setCell ⟨g, 5, none⟩ u) g vE vG vB vH [u] ty := by unfold KBx at *; simp [World.setCell, Array.getElem?_modify, h]
theorem Rw.keepT {w w' : World} {N : Nat} {v : Value} {xs : List EntD} {O : Nat → Prop} (h : Rw w N v xs O) (k1 : ∀ k, Tyd w k 84 → w'.heap[k]? = w.heap[k]?) (k2 : ∀ k, Tyd w k 5 → w'.heap[k]? = w.heap[k]?) : Rw w' N v xs O :=
  ⟨row_same h.row (fun g hg => k1 g (row_tyd h.row hg)), fun x hx => (h.ents x hx).keepO (fun g hg => k2 g (by
    rcases hg with z | z | z
    · exact row_tyd (h.ents x hx).row.2 z
    · exact row_tyd (h.ents x hx).qual.2 z
    · exact row_tyd (h.ents x hx).val.2 z)), h.ap, h.rowO, h.entO⟩
section
variable {w w' : World} {N g : Nat} {aE aG aB aH : Option Addr} {cE cG cB cH : Nat} {tl tl' : List Value} {ty : TypeId} {bi : List BI} {ei : List EI} {hs gs : List Value} {O : Nat → Prop}
theorem Bq.rebox (h : Bq w N g aE aG aB aH cE cG cB cH tl ty bi ei hs gs O) (hb : KBx w' g (.slice aE ei.length cE) (.slice aG gs.length cG) (.slice aB bi.length cB) (.slice aH hs.length cH) tl' ty) (k : ∀ i, O i → i ≠ g → w'.heap[i]? = w.heap[i]?) : Bq w' N g aE aG aB aH cE cG cB cH tl' ty bi ei hs gs O :=
  have tg : Tyd w g ty := h.bp.box.tyd
  have n1 : ∀ i, Tyd w i 82 → i ≠ g := fun i hi => hi.ne tg (fun z => h.bp.tys.1 z.symm)
  have n2 : ∀ i, Tyd w i 28 → i ≠ g := fun i hi => hi.ne tg (fun z => h.bp.tys.2.1 z.symm)
  have n3 : ∀ i, Tyd w i 84 → i ≠ g := fun i hi => hi.ne tg (fun z => h.bp.tys.2.2.1 z.symm)
  have n4 : ∀ i, Tyd w i 5 → i ≠ g := fun i hi => hi.ne tg (fun z => h.bp.tys.2.2.2 z.symm)
  ⟨⟨hb, row_same h.bp.rB (fun x hx => k _ (h.inR.2.1 x hx) (n1 x (row_tyd h.bp.rB hx))), row_same h.bp.rE (fun x hx => k _ (h.inR.2.2.1 x hx) (n2 x (row_tyd h.bp.rE hx))), h.bp.tys, fun i p hp => own_same (h.bp.oB i p hp) (fun x hx => k _ (h.inB i p hp x hx) (n4 x (row_tyd (h.bp.oB i p hp).2 hx))), fun i p hp => ⟨row_same (h.bp.oE i p hp).1 (fun x hx => k _ (h.inE i p hp x hx) (n3 x (row_tyd (h.bp.oE i p hp).1 hx))), (h.bp.oE i p hp).2⟩, h.bp.apB, h.bp.apE, h.bp.len, h.bp.few⟩,
    row_same h.rH (fun x hx => k _ (h.inR.2.2.2.1 x hx) (n1 x (row_tyd h.rH hx))), row_same h.rG (fun x hx => k _ (h.inR.2.2.2.2 x hx) (n2 x (row_tyd h.rG hx))), h.apBH, h.apEG, fun i p v hp hv => own_same (h.oH i p v hp hv) (fun x hx => k _ (h.inH i v hv x hx) (n4 x (row_tyd (h.oH i p v hp hv).2 hx))), fun i p v hp hv => row_same (h.oG i p v hp hv) (fun x hx => k _ (h.inG i v hv x hx) (n3 x (row_tyd (h.oG i p v hp hv) hx))), h.apH, h.apHH, h.apG, h.apGG, h.dB, h.dE, h.inR, h.inB, h.inE, h.inH, h.inG⟩
end
structure Wz (w : World) (N : Nat) (vW : Value) (us : List Value) (Ds : List (List En)) (F : Nat → Prop) : Prop where
  lu : us.length = Ds.length
  row : w.ownsRow N 28 1 vW us.length us
  rowF : ∀ k, vW.ownBlock = some k → F k
  ws : ∀ (i : Nat) (u : Value), us[i]? = some u → ∃ zs, Rw w N u zs F ∧ Ds[i]? = some (zs.map EntD.dat) ∧ (∀ x ∈ zs, SmE x.dat) ∧ zs.length ≤ 1048576
theorem Wz.keep {w w' : World} {N : Nat} {vW : Value} {us : List Value} {Ds : List (List En)} {F : Nat → Prop} (h : Wz w N vW us Ds F) (k : ∀ i, F i → w'.heap[i]? = w.heap[i]?) : Wz w' N vW us Ds F :=
  ⟨h.lu, row_same h.row (fun x hx => k x (h.rowF x hx)), h.rowF, fun i u hu => by
    obtain ⟨zs, r, e⟩ := h.ws i u hu
    exact ⟨zs, r.keep k, e⟩⟩
structure Kp (w : World) (N g : Nat) (aE aG aB aH : Option Addr) (cE cG cB cH : Nat) (aW : Option Addr) (cW : Nat) (bi : List BI) (ei : List EI) (us : List Value) (Ds : List (List En)) (O F P : Nat → Prop) : Prop where
  bq : Bq w N g aE aG aB aH cE cG cB cH [.slice aW us.length cW] 71 bi ei [] [] O
  le : ei.length = Ds.length
  es : ∀ (i : Nat) (p : EI), ei[i]? = some p → Rw w N p.v p.zs O ∧ Ds[i]? = some (p.zs.map EntD.dat) ∧ (∀ x ∈ p.zs, SmE x.dat) ∧ p.zs.length ≤ 1048576
  wz : Wz w N (.slice aW us.length cW) us Ds F
  disj : ∀ k, O k → ¬ F k
  inO : ∀ k, O k → P k
  inF : ∀ k, F k → P k
  lt : ∀ k, P k → N ≤ k ∧ k < w.heap.size
section
variable {w w' w1 w2 w3 w5 : World} {N g : Nat} {aE aG aB aH : Option Addr} {cE cG cB cH : Nat} {aW : Option Addr} {cW : Nat} {bi : List BI} {ei : List EI} {us : List Value} {Ds : List (List En)} {O F P Q : Nat → Prop}
theorem Kp.keep (h : Kp w N g aE aG aB aH cE cG cB cH aW cW bi ei us Ds O F P) (k : ∀ i, P i → w'.heap[i]? = w.heap[i]?) (hs : w.heap.size ≤ w'.heap.size) : Kp w' N g aE aG aB aH cE cG cB cH aW cW bi ei us Ds O F P :=
  ⟨h.bq.keep (fun i hi => k i (h.inO i hi)), h.le, fun i p hp => ⟨(h.es i p hp).1.keep (fun i hi => k i (h.inO i hi)), (h.es i p hp).2⟩, h.wz.keep (fun i hi => k i (h.inF i hi)), h.disj, h.inO, h.inF, fun i hi => ⟨(h.lt i hi).1, Nat.lt_of_lt_of_le (h.lt i hi).2 hs⟩⟩
theorem Kp.kept {al : Option Addr} {cl : Nat} {xs : List EntD} (h : Kp w N g aE aG aB aH cE cG cB cH aW cW bi ei us Ds O F P) (hN : N ≤ w.heap.size) (hR : Rw w N (.slice al xs.length cl) xs Q) (hQ : ∀ k, Q k → ¬ P k ∧ N ≤ k ∧ k < w.heap.size) (sm : ∀ x ∈ xs, SmE x.dat) (hx : xs.length ≤ 1048576) (hb : bi.length + 3 * xs.length + 3 ≤ 5864062014805) (he : ei.length + 1 ≤ 5864062014805)
    (hk : KeepP w w' N g (.slice aE ei.length cE) (.slice aG ([] : List Value).length cG) (.slice aB bi.length cB) (.slice aH ([] : List Value).length cH) [.slice aW us.length cW] 71 (ei.map EI.v ++ [.slice al xs.length cl]) (bi.map BI.v ++ flat3 xs)) :
    ∃ aE' aB' cE' cB', Bq w' N g aE' aG aB' aH cE' cG cB' cH [.slice aW us.length cW] 71 (bi ++ items xs) (ei ++ [EI.mk (.slice al xs.length cl) xs.length xs]) [] [] (fun k => O k ∨ Q k ∨ (w.heap.size ≤ k ∧ k < w'.heap.size)) ∧ SpF w w' O ∧ (∀ (i : Nat) (p : EI), (ei ++ [EI.mk (.slice al xs.length cl) xs.length xs])[i]? = some p → Rw w' N p.v p.zs (fun k => O k ∨ Q k ∨ (w.heap.size ≤ k ∧ k < w'.heap.size)) ∧ (Ds ++ [xs.map EntD.dat])[i]? = some (p.zs.map EntD.dat) ∧ (∀ x ∈ p.zs, SmE x.dat) ∧ p.zs.length ≤ 1048576) ∧ Wz w' N (.slice aW us.length cW) us Ds F ∧ Rw w' N (.slice al xs.length cl) xs Q := by
  have sp0 : SpF w w' (fun i => i = g ∨ (Value.slice aE ei.length cE).ownBlock = some i ∨ (Value.slice aB bi.length cB).ownBlock = some i) := by
    obtain ⟨_, _, _, _, _, sp⟩ := hk
    exact sp
  obtain ⟨aE', aB', cE', cB', q, sp⟩ := h.bq.kept (fun k hk => (h.lt k (h.inO k hk)).2) hR (fun k hk z => (hQ k hk).1 (h.inO k z)) sm (by omega) hb he hk
  have tg : Tyd w g 71 := h.bq.bp.box.tyd
  have kt : ∀ x ty', Tyd w x ty' → ty' ≠ 71 → ty' ≠ 28 → ty' ≠ 82 → w'.heap[x]? = w.heap[x]? := fun x ty' hx n1 n2 n3 => sp0.block x hx.lt (fun z => by
    rcases z with z | z | z
    · exact hx.ne tg n1 z
    · exact (row_tyd h.bq.bp.rE z).ne hx (fun y => n2 y.symm) rfl
    · exact (row_tyd h.bq.bp.rB z).ne hx (fun y => n3 y.symm) rfl)
  have k1 : ∀ x, Tyd w x 84 → w'.heap[x]? = w.heap[x]? := fun x hx => kt x _ hx (by decide) (by decide) (by decide)
  have k2 : ∀ x, Tyd w x 5 → w'.heap[x]? = w.heap[x]? := fun x hx => kt x _ hx (by decide) (by decide) (by decide)
  refine ⟨aE', aB', cE', cB', q, sp, fun i p hp => ?_, h.wz.keep (fun i hi => sp.block i (h.lt i (h.inF i hi)).2 (fun z => h.disj i z hi)), hR.keepT k1 k2⟩
  rcases snoc_at hp with ⟨hi, hp⟩ | ⟨hi, rfl⟩
  · obtain ⟨r, e⟩ := h.es i p hp
    refine ⟨(r.keepT k1 k2).mono (fun k hk => .inl hk), ?_, e.2⟩
    rw [List.getElem?_append_left (by rw [← h.le]; exact hi)]
    exact e.1
  · refine ⟨(hR.keepT k1 k2).mono (fun k hk => .inr (.inl hk)), ?_, sm, hx⟩
    rw [hi, h.le, List.getElem?_append_right (Nat.le_refl _), Nat.sub_self]
    rfl
theorem Kp.took {D : List En} {zs : List EntD} {v : Value} {a' : Option Addr} {n' c' : Nat} {O1 : Nat → Prop} (bq : Bq w N g aE aG aB aH cE cG cB cH [.slice aW us.length cW] 71 bi ei [] [] O1) (le : ei.length = Ds.length + 1) (es : ∀ (i : Nat) (p : EI), ei[i]? = some p → Rw w N p.v p.zs O1 ∧ (Ds ++ [D])[i]? = some (p.zs.map EntD.dat) ∧ (∀ x ∈ p.zs, SmE x.dat) ∧ p.zs.length ≤ 1048576) (wz : Wz w N (.slice aW us.length cW) us Ds F) (disj : ∀ k, O1 k → ¬ F k) (hO : ∀ k, O1 k → N ≤ k ∧ k < w.heap.size) (hF : ∀ k, F k → N ≤ k ∧ k < w.heap.size) (hN : N ≤ w.heap.size)
    (cl : Cl w w1 zs v) (hd : zs.map EntD.dat = D) (sm : ∀ e ∈ D, SmE e) (hl : D.length ≤ 1048576) (en : n' = (us ++ [v]).length) (r2 : w2.ownsRow N 28 1 (.slice a' n' c') (us ++ [v]).length (us ++ [v])) (g2 : (w1.alloc (.cells #[v] 28)).grownBy w2 (Value.slice aW us.length cW).ownBlock) (lo : ∀ k, (Value.slice a' n' c').ownBlock = some k → (Value.slice aW us.length cW).ownBlock = some k ∨ w1.heap.size + 1 ≤ k) :
    KBx w2 g (.slice aE ei.length cE) (.slice aG ([] : List Value).length cG) (.slice aB bi.length cB) (.slice aH ([] : List Value).length cH) [.slice aW us.length cW] 71 ∧ Kp (w2.setCell ⟨g, 5, none⟩ (.slice a' n' c')) N g aE aG aB aH cE cG cB cH a' c' bi ei (us ++ [v]) (Ds ++ [D]) O1 (fun k => F k ∨ (w.heap.size ≤ k ∧ k < w2.heap.size)) (fun k => O1 k ∨ F k ∨ (w.heap.size ≤ k ∧ k < w2.heap.size)) ∧ SpF w (w2.setCell ⟨g, 5, none⟩ (.slice a' n' c')) (fun k => k = g ∨ (Value.slice aW us.length cW).ownBlock = some k) ∧ (∀ x, Tyd w x 84 → (w2.setCell ⟨g, 5, none⟩ (.slice a' n' c')).heap[x]? = w.heap[x]?) ∧ (∀ x, Tyd w x 5 → (w2.setCell ⟨g, 5, none⟩ (.slice a' n' c')).heap[x]? = w.heap[x]?) := by
  subst en
  have b1 : Below w.heap.size w (w1.alloc (.cells #[v] 28)) := cl.below.alloc cl.below.size _
  have s1 : w.heap.size ≤ w1.heap.size := cl.below.size
  have s3 : (w1.alloc (.cells #[v] 28)).heap.size = w1.heap.size + 1 := World.size_alloc _ _
  have s2 : w1.heap.size + 1 ≤ w2.heap.size := s3 ▸ g2.size
  obtain ⟨W3, hW⟩ : ∃ Y, Y = w2.setCell ⟨g, 5, none⟩ (.slice a' (us ++ [v]).length c') := ⟨_, rfl⟩
  have sz : W3.heap.size = w2.heap.size := by rw [hW]; exact World.size_setCell _ _ _
  have tg : Tyd w g 71 := bq.bp.box.tyd
  have tW : ∀ k, (Value.slice aW us.length cW).ownBlock = some k → Tyd w k 28 := fun k hk => row_tyd wz.row hk
  have kk2 : ∀ x, x < w.heap.size → (Value.slice aW us.length cW).ownBlock ≠ some x → w2.heap[x]? = w.heap[x]? := fun x hx e => (g2.block x (by omega) (fun z => e z.symm)).trans (b1.block x hx)
  have kk : ∀ x, x < w.heap.size → (Value.slice aW us.length cW).ownBlock ≠ some x → x ≠ g → W3.heap[x]? = w.heap[x]? := fun x hx e e3 => by
    rw [hW]
    exact (Below.heap_setCell _ _ _ _ e3).trans (kk2 x hx e)
  have kt : ∀ x ty', Tyd w x ty' → ty' ≠ 28 → ty' ≠ 71 → W3.heap[x]? = w.heap[x]? := fun x ty' hx n1 n2 => kk x hx.lt (fun z => (tW x z).ne hx (fun y => n1 y.symm) rfl) (hx.ne tg n2)
  have k1 : ∀ x, Tyd w x 84 → W3.heap[x]? = w.heap[x]? := fun x hx => kt x _ hx (by decide) (by decide)
  have k2 : ∀ x, Tyd w x 5 → W3.heap[x]? = w.heap[x]? := fun x hx => kt x _ hx (by decide) (by decide)
  have nOW : ∀ k, O1 k → (Value.slice aW us.length cW).ownBlock ≠ some k := fun k hk z => disj k hk (wz.rowF k z)
  have ngW : (Value.slice aW us.length cW).ownBlock ≠ some g := fun z => (tW g z).ne tg (by decide) rfl
  have box2 : KBx w2 g (.slice aE ei.length cE) (.slice aG ([] : List Value).length cG) (.slice aB bi.length cB) (.slice aH ([] : List Value).length cH) [.slice aW us.length cW] 71 := bq.bp.box.keep (kk2 g tg.lt ngW)
  have new1 : ∀ x, w.heap.size ≤ x → x < w1.heap.size → W3.heap[x]? = w1.heap[x]? := fun x hx hx1 => by
    have e : (w1.alloc (.cells #[v] 28)).heap[x]? = w1.heap[x]? := ((Below.refl w1.heap.size w1).alloc (Nat.le_refl _) _).block x hx1
    rw [hW]
    refine (Below.heap_setCell _ _ _ _ (show x ≠ g by have := tg.lt; omega)).trans ((g2.block x (by omega) (fun z => by have := (wz.row.lt x z.symm).2; omega)).trans e)
  have smz : ∀ x ∈ zs, SmE x.dat := fun x hx => sm _ (by rw [← hd]; exact List.mem_map_of_mem hx)
  have lz : zs.length ≤ 1048576 := by
    have := congrArg List.length hd
    rw [List.length_map] at this
    omega
  have rwz : Rw W3 N v zs (fun k => F k ∨ (w.heap.size ≤ k ∧ k < w2.heap.size)) := ((cl.rw.keep (fun x hx => new1 x hx.1 hx.2)).low hN).mono (fun x hx => .inr ⟨hx.1, by omega⟩)
  rw [← hW]
  refine ⟨box2, ⟨bq.rebox (by rw [hW]; exact box2.setW _) (fun i hi ne => kk i (hO i hi).2 (nOW i hi) ne), by rw [le, List.length_append]; rfl, fun i p hp => ⟨(es i p hp).1.keepT k1 k2, (es i p hp).2⟩, ⟨by rw [List.length_append, List.length_append, wz.lu]; rfl, ?_, fun k hk => ?_, fun i u hu => ?_⟩, fun k hk z => ?_, fun k hk => .inl hk, fun k hk => .inr hk, fun k hk => ?_⟩, ?_, k1, k2⟩
  · refine row_same r2 (fun k hk => ?_)
    rw [hW]
    refine Below.heap_setCell _ _ _ _ ?_
    show k ≠ g
    rcases lo k hk with z | z
    · exact fun e => ngW (e ▸ z)
    · have := tg.lt; omega
  · rcases lo k hk with z | z
    · exact .inl (wz.rowF k z)
    · exact .inr ⟨by omega, (r2.lt k hk).2⟩
  · rcases snoc_at hu with ⟨hi, hu⟩ | ⟨hi, rfl⟩
    · obtain ⟨ys, r, e1, e2⟩ := wz.ws i u hu
      refine ⟨ys, (r.keepT k1 k2).mono (fun k hk => .inl hk), ?_, e2⟩
      rw [List.getElem?_append_left (by rw [← wz.lu]; exact hi)]
      exact e1
    · refine ⟨zs, rwz, ?_, smz, lz⟩
      rw [hi, wz.lu, List.getElem?_append_right (Nat.le_refl _), Nat.sub_self, hd]
      rfl
  · rcases z with z | z
    · exact disj k hk z
    · have := (hO k hk).2; omega
  · rw [sz]
    rcases hk with z | z | z
    · exact ⟨(hO k z).1, by have := (hO k z).2; omega⟩
    · exact ⟨(hF k z).1, by have := (hF k z).2; omega⟩
    · exact ⟨by omega, z.2⟩
  · rw [hW]
    exact (((SpF.refl w (fun k => k = g ∨ (Value.slice aW us.length cW).ownBlock = some k)).below b1).grown g2 (fun k hk => .inr hk)).grown (grown1 w2 g 5 _) (fun k hk => by cases hk; exact .inl rfl)
end
end Go.Proofs.YthhkpkfpifllkaaGreat

namespace Go.Proofs.YthhkpkfpifllkaaGreat
open Go.RowKit
set_option linter.unusedVariables false

set_option maxRecDepth 100000 in
theorem op_fieldW {a : Act} {w : World} {x g : Nat} {d : Option Nat} {ps : String} {af : Array Edge} (hx : a.tmps[x]?.getD undef = .pointer (some ⟨g, 0, none⟩)) :
    (execOp a.eval { dst := d, op := Op.fieldAddr 71 (Operand.tmp x) 1, type := 0, pos := ps, after := af, guard := none }).run Tryz.prog w = .ok (.value (.pointer (some ⟨g, 5, none⟩))) w := by
  go_simp
set_option maxRecDepth 100000 in
theorem wp_fieldW {a : Act} {w : World} {K : Act → World → Prop} {Q : Exit → Act → World → Prop} {x g : Nat} {d : Option Nat} {ps : String} {af : Array Edge} (hx : a.tmps[x]?.getD undef = .pointer (some ⟨g, 0, none⟩)) (hk : K (a.put d (.pointer (some ⟨g, 5, none⟩))) w) :
    Oper.wp Tryz.prog { dst := d, op := Op.fieldAddr 71 (Operand.tmp x) 1, type := 0, pos := ps, after := af, guard := none } a w K Q := by
  go_simp
  exact hk
set_option maxRecDepth 100000 in
theorem op_loadLL {a : Act} {w : World} {x g n c j : Nat} {ad : Option Addr} {d : Option Nat} {ps : String} {af : Array Edge} (hx : a.tmps[x]?.getD undef = .pointer (some ⟨g, j, none⟩)) (h : w.cell? ⟨g, j, none⟩ = some (.slice ad n c)) :
    (execOp a.eval { dst := d, op := Op.load 67 (Operand.tmp x), type := 67, pos := ps, after := af, guard := none }).run Tryz.prog w = .ok (.value (.slice ad n c)) w := by
  go_simp
set_option maxRecDepth 100000 in
theorem wp_buildL1 {a : Act} {w : World} {K : Act → World → Prop} {Q : Exit → Act → World → Prop} {p n0 c0 : Nat} {a0 : Option Addr} {d : Option Nat} {ps : String} {af : Array Edge} (h0 : a.tmps[p]?.getD undef = .slice a0 n0 c0) (hk : K (a.put d (.slice (some ⟨w.heap.size, 0, none⟩) 1 1)) (w.alloc (.cells #[.slice a0 n0 c0] 28))) :
    Oper.wp Tryz.prog { dst := d, op := Op.buildSlice 67 1 #[(0, Operand.tmp p)], type := 67, pos := ps, after := af, guard := none } a w K Q := by
  go_simp
  exact hk
set_option maxRecDepth 100000 in
theorem wp_storeLL {a : Act} {w : World} {K : Act → World → Prop} {Q : Exit → Act → World → Prop} {p q g n c j : Nat} {a' : Option Addr} {y : Value} {ps : String} {af : Array Edge} (hc : w.cell? ⟨g, j, none⟩ = some y) (hf : w.frozen? ⟨g, j, none⟩ = false) (hp : a.tmps[p]?.getD undef = .pointer (some ⟨g, j, none⟩)) (hq : a.tmps[q]?.getD undef = .slice a' n c) (hk : K a (w.setCell ⟨g, j, none⟩ (.slice a' n c))) :
    Oper.wp Tryz.prog { dst := none, op := Op.store 67 (Operand.tmp p) (Operand.tmp q), type := 0, pos := ps, after := af, guard := none } a w K Q := by
  go_simp
  exact hk
theorem wp_append_ll1 {w : World} {N : Nat} {v u1 : Value} {us : List Value} {o : Oper} {a : Act} {K : Act → World → Prop} {Q : Exit → Act → World → Prop} (s y : Operand)
    (ho : o.op = .call { callee := .builtin .append, args := #[s, y], argTypes := #[67, 67] })
    (hs : a.eval s = v) (hr : w.ownsRow N 28 1 v us.length us) (h1 : u1.oneCell' = true) (hy : a.eval y = .slice (some ⟨w.heap.size, 0, none⟩) 1 1) (hn : us.length + 1 ≤ 5864062014805) (hN : N ≤ w.heap.size)
    (h : ∀ a' n' c' w', n' = (us ++ [u1]).length → w'.ownsRow N 28 1 (.slice a' n' c') (us ++ [u1]).length (us ++ [u1]) → (w.alloc (.cells #[u1] 28)).grownBy w' v.ownBlock → (∀ k, (Value.slice a' n' c').ownBlock = some k → v.ownBlock = some k ∨ w.heap.size + 1 ≤ k) → K (a.put o.dst (.slice a' n' c')) w') : Oper.wp Tryz.prog o a (w.alloc (.cells #[u1] 28)) K Q := by
  obtain ⟨i0, hi, hz0, hz1, hz2⟩ := info_parts (show (Tryz.prog.info? 28).map (fun i => (i.zero, i.size, i.bytes)) = some (some (.slice none 0 0), 1, 24) by kernel_rfl)
  obtain ⟨v', w', hrn, k1, k2, k3, k4⟩ := run_append_own_at (P := Tryz.prog) (w.alloc (.cells #[u1] 28)) N 67 o.type 28 i0 (.slice none 0 0) 1 24 (by kernel_rfl) hi hz0 hz1 hz2 rfl (by decide) v us.length us (hr.alloc _) ⟨w.heap.size, 0, none⟩ 1 1 [u1] rfl (fun j u hj => by
    have hn := heap_new w (.cells #[u1] 28)
    have e3 : ((⟨w.heap.size, 0, none⟩ : Addr).add j) = ⟨w.heap.size, j, none⟩ := by
      unfold Addr.add
      by_cases hj : j = 0 <;> simp [hj]
    rw [e3]
    have e2 : (w.alloc (.cells #[u1] 28)).heap[w.heap.size]? = some (.cells #[u1] 28 (0, 0)) := hn
    simp only [World.cell?, e2]
    simpa using hj) (fun u hu => by rw [List.mem_singleton.1 hu]; exact h1) (by unfold maxLen; omega) (by omega) (by rw [World.size_alloc]; omega)
  have k1' : w'.ownsRow N 28 1 v' (us ++ [u1]).length (us ++ [u1]) := by rw [List.length_append]; exact k1
  obtain ⟨a', c', rfl⟩ := row_formW k1'
  unfold Oper.wp execOp
  rw [ho]
  simp only [resolve, invoke, builtin, Sem.run_bind, Sem.run_pure, Result.andThen_ok, List.map_toArray, List.map_cons, List.map_nil, hs, hy, hrn]
  refine h a' _ c' w' rfl k1' k2 (fun k hk => ?_)
  rcases k4 with k4 | k4
  · rw [k4] at hk; exact .inl hk
  · rw [k4, World.size_alloc] at hk
    cases hk
    exact .inr (Nat.le_refl _)
theorem Rw.rdlS {W : World} {N : Nat} {a : Option Addr} {c : Nat} {zs : List EntD} {O : Nat → Prop} (h : Rw W N (.slice a zs.length c) zs O) (hb : ∀ x ∈ zs, SmE x.dat) : RdL3 W a c zs := by
  obtain ⟨a', c', e, _, hr⟩ := h.rdl (fun x hx => (hb x hx).1)
  simp only [Value.slice.injEq, true_and] at e
  obtain ⟨rfl, rfl⟩ := e
  exact hr
theorem SmE.shr {x : EntD} (h : SmE x.dat) : Shrt x := by
  have := h.2
  simp only [EntD.dat] at this
  exact ⟨by omega, by omega, by omega⟩
def Kpt (w : World) (N g : Nat) (Ds : List (List En)) (nB : Nat) (P : Nat → Prop) : Prop := ∃ aE aG aB aH cE cG cB cH aW cW bi ei us O F, Kp w N g aE aG aB aH cE cG cB cH aW cW bi ei us Ds O F P ∧ bi.length = nB
def TakeP (w w' : World) (N g : Nat) (Ds : List (List En)) (nB : Nat) (P Q : Nat → Prop) (v : Value) (xs : List EntD) : Prop := ∃ P', Kpt w' N g Ds nB P' ∧ (∀ k, P' k → P k ∨ Q k ∨ (w.heap.size ≤ k ∧ k < w'.heap.size)) ∧ SpF w w' P ∧ Rw w' N v xs Q
set_option maxRecDepth 100000 in
set_option maxHeartbeats 8000000 in
theorem take_any {w : World} {N g nB : Nat} {Ds : List (List En)} {P Q : Nat → Prop} {al : Option Addr} {cl : Nat} {xs : List EntD} (h : Kpt w N g Ds nB P) (hN : N ≤ w.heap.size) (hR : Rw w N (.slice al xs.length cl) xs Q) (hQ : ∀ k, Q k → ¬ P k ∧ N ≤ k ∧ k < w.heap.size) (sm : ∀ x ∈ xs, SmE x.dat) (hx : xs.length ≤ 1048576) (hb : nB + 3 * xs.length + 3 ≤ 5864062014805) (he : Ds.length + 1 ≤ 5864062014805) :
    Calls Tryz.prog 38 #[.pointer (some ⟨g, 0, none⟩), .slice al xs.length cl] w fun r w' => r = .returned (.tuple #[]) ∧ TakeP w w' N g (Ds ++ [xs.map EntD.dat]) (nB + 3 * xs.length) P Q (.slice al xs.length cl) xs := by
  obtain ⟨aE, aG, aB, aH, cE, cG, cB, cH, aW, cW, bi, ei, us, O, F, kp, hnb⟩ := h
  have HKe := Lib.hid (bkeep_any kp.bq.kr hN (hR.rdlS sm) (fun b o e => by subst e; exact row_tyd hR.row rfl) (by rw [List.length_map, hnb]; exact hb) (by rw [List.length_map, kp.le]; exact he) (by omega))
  obtain ⟨nx, hnx⟩ : ∃ k, k = xs.length := ⟨_, rfl⟩
  have HAll : Hid (Kp w N g aE aG aB aH cE cG cB cH aW cW bi ei us Ds O F P ∧ bi.length = nB ∧ N ≤ w.heap.size ∧ Rw w N (.slice al xs.length cl) xs Q ∧ (∀ k, Q k → ¬ P k ∧ N ≤ k ∧ k < w.heap.size) ∧ (∀ x ∈ xs, SmE x.dat) ∧ xs.length ≤ 1048576 ∧ nB + 3 * xs.length + 3 ≤ 5864062014805 ∧ Ds.length + 1 ≤ 5864062014805) := ⟨kp, hnb, hN, hR, hQ, sm, hx, hb, he⟩
  have HNx := Lib.hid hnx
  obtain ⟨vx, hvx⟩ : ∃ v, v = Value.slice al xs.length cl := ⟨_, rfl⟩
  have HVx := Lib.hid hvx
  rw [← hvx]
  rw [← hvx] at HKe
  have hv2 : vx = .slice al nx cl := by rw [hvx, hnx]
  have HV2 := Lib.hid hv2
  rw [hv2] at HKe
  have HGoal : Hid (∀ w', TakeP w w' N g (Ds ++ [xs.map EntD.dat]) (nB + 3 * xs.length) P Q vx xs ↔ TakeP w w' N g (Ds ++ [xs.map EntD.dat]) (nB + 3 * xs.length) P Q (.slice al xs.length cl) xs) := fun w' => by rw [hvx]
  obtain ⟨TP, hTP⟩ : ∃ T : World → Prop, T = fun w' => TakeP w w' N g (Ds ++ [xs.map EntD.dat]) (nB + 3 * xs.length) P Q vx xs := ⟨_, rfl⟩
  have HTP := Lib.hid hTP
  have e0 : ∀ w', TakeP w w' N g (Ds ++ [xs.map EntD.dat]) (nB + 3 * xs.length) P Q vx xs = TP w' := fun w' => by rw [hTP]
  simp only [e0]
  rw [hv2]
  clear kp hnb hN hR hQ sm hx hb he hnx hvx hv2 hTP e0
  go_enter Tryz.func38, Tryz.ntmps38
  go_wp2_with fail
  refine Calls.mono HKe.out ?_
  rintro e1 w1 ⟨rfl, kp1⟩
  obtain ⟨kp, hnb, hN, hR, hQ, sm, hx, hb, he⟩ := HAll.out
  have kp1' := kp1
  rw [show Value.slice al nx cl = .slice al xs.length cl by rw [HNx.out]] at kp1'
  obtain ⟨aE', aB', cE', cB', q, sp, es, wz, rx⟩ := kp.kept hN hR hQ sm hx (by rw [hnb]; exact hb) (by rw [kp.le]; exact he) kp1'
  obtain ⟨nW, hnW⟩ : ∃ k, k = us.length := ⟨_, rfl⟩
  obtain ⟨O1, hO1⟩ : ∃ f : Nat → Prop, f = fun k => O k ∨ Q k ∨ (w.heap.size ≤ k ∧ k < w1.heap.size) := ⟨_, rfl⟩
  rw [← hO1] at q es
  have hw1 : w.heap.size ≤ w1.heap.size := sp.size
  have lo1 : ∀ k, O1 k → N ≤ k ∧ k < w1.heap.size := fun k hk => by
    rw [hO1] at hk
    rcases hk with z | z | z
    · exact ⟨(kp.lt k (kp.inO k z)).1, Nat.lt_of_lt_of_le (kp.lt k (kp.inO k z)).2 hw1⟩
    · exact ⟨(hQ k z).2.1, Nat.lt_of_lt_of_le (hQ k z).2.2 hw1⟩
    · exact ⟨Nat.le_trans hN z.1, z.2⟩
  have dj1 : ∀ k, O1 k → ¬ F k := fun k hk z => by
    rw [hO1] at hk
    rcases hk with y | y | y
    · exact kp.disj k y z
    · exact (hQ k y).1 (kp.inF k z)
    · have := (kp.lt k (kp.inF k z)).2; omega
  have HQ := Lib.hid (And.intro q (And.intro sp (And.intro es (And.intro wz (And.intro rx (And.intro lo1 (And.intro dj1 hO1)))))))
  have tg : Tyd w1 g 71 := q.bp.box.tyd
  have tW : ∀ k, (Value.slice aW nW cW).ownBlock = some k → Tyd w1 k 28 := fun k hk => row_tyd wz.row (by rw [← hnW]; exact hk)
  have HlG : Hid (g < w1.drew.heap.size) := tg.lt
  have HS : Hid (∀ Z : World, Z.heap[g]? = w1.heap[g]? → Z.cell? ⟨g, 5, none⟩ = some (.slice aW nW cW)) := fun Z z => by
    have := (q.bp.box.keep z).c5
    rw [← hnW] at this
    exact this
  have HFz : Hid (∀ Z : World, Z.heap[g]? = w1.heap[g]? → Z.frozen? ⟨g, 5, none⟩ = false) := fun Z z => (q.bp.box.keep z).fz 5
  have HgW : Hid (∀ X Z : World, X.grownBy Z (Value.slice aW nW cW).ownBlock → g < X.heap.size → Z.heap[g]? = X.heap[g]?) := fun X Z gz l => gz.block g l (fun z => (tW g z.symm).ne tg (by decide) rfl)
  have HrW : Hid (∀ Z : World, Below w1.drew.heap.size w1.drew Z → Z.ownsRow N 28 1 (.slice aW nW cW) us.length us) := fun Z b => by
    rw [hnW]
    exact row_same wz.row (fun k hk => b.block k (wz.row.lt k hk).2)
  have HNw : Hid (N ≤ w1.drew.heap.size) := Nat.le_trans hN hw1
  have HLen : Hid (us.length + 1 ≤ 5864062014805) := by
    unfold Hid
    rw [wz.lu]
    exact he
  have HCl : Hid (Calls Tryz.prog 14 #[.slice al nx cl] w1.drew fun r W' => ∃ v zs, r = .returned v ∧ Cl w1.drew W' zs v ∧ zs.map EntD.dat = xs.map EntD.dat) := by
    unfold Hid
    rw [HNx.out]
    exact cloneAll_any (((rx.keep (w' := w1.drew) (fun _ _ => rfl)).rdlS sm)) (fun x hx => (sm x hx).shr) (by omega)
  have HnW := Lib.hid hnW
  have hS := HS.out w1.drew rfl
  have k5 := HS.out w1 rfl
  clear kp hnb hN hR hQ sm hx hb he kp1 kp1' q sp es wz rx lo1 dj1 hO1 tg tW hnW hw1 HKe
  go_upto_region 1 with fail
  clear k5
  refine wp_region_noPanic ?_
  refine wp_region_anyE (S := fun Z => Z.cell? ⟨g, 5, none⟩ = some (.slice aW nW cW)) (E := fun j => decide (j < 11)) (by kernel_rfl) ?_
  refine anyE_gen (fun A0 hA0 => ?_)
  have s0 : A0.tmps.size = 20 := by rw [hA0]; rfl
  have v0_0 : Tv A0 0 (.pointer (some ⟨g, 0, none⟩)) := by rw [hA0]; rfl
  have v0_1 : Tv A0 1 (.slice al nx cl) := by rw [hA0]; rfl
  refine AnyE.tk (i := 0) (.pointer (some ⟨g, 0, none⟩)) rfl (by kernel_rfl) (fun _ _ _ h => h) (by rfl) (fun wq hq => op_move v0_0) hS ?_
  refine anyE_gen (fun A1 hA1 => ?_)
  have s1 := tz hA1 s0
  have v1_0 := tn hA1 (by decide) v0_0
  have v1_1 := tn hA1 (by decide) v0_1
  have v1_9 := te hA1 s0 (by decide)
  refine AnyE.tk (i := 1) (.pointer (some ⟨g, 0, none⟩)) rfl (by kernel_rfl) (fun _ _ _ h => h) (by rfl) (fun wq hq => op_move v1_0) hS ?_
  refine anyE_gen (fun A2 hA2 => ?_)
  have s2 := tz hA2 s1
  have v2_1 := tn hA2 (by decide) v1_1
  have v2_9 := tn hA2 (by decide) v1_9
  have v2_10 := te hA2 s1 (by decide)
  refine AnyE.tk (i := 2) (.pointer (some ⟨g, 0, none⟩)) rfl (by kernel_rfl) (fun _ _ _ h => h) (by rfl) (fun wq hq => op_nil v2_10) hS ?_
  refine anyE_gen (fun A3 hA3 => ?_)
  have s3 := tz hA3 s2
  have v3_1 := tn hA3 (by decide) v2_1
  have v3_9 := tn hA3 (by decide) v2_9
  have v3_11 := te hA3 s2 (by decide)
  refine AnyE.tk (i := 3) (.pointer (some ⟨g, 5, none⟩)) rfl (by kernel_rfl) (fun _ _ _ h => h) (by rfl) (fun wq hq => op_fieldW v3_11) hS ?_
  refine anyE_gen (fun A4 hA4 => ?_)
  have s4 := tz hA4 s3
  have v4_1 := tn hA4 (by decide) v3_1
  have v4_9 := tn hA4 (by decide) v3_9
  have v4_12 := te hA4 s3 (by decide)
  refine AnyE.tk (i := 4) (.slice aW nW cW) rfl (by kernel_rfl) (fun _ _ _ h => h) (by rfl) (fun wq hq => op_loadLL v4_12 hq) hS ?_
  refine anyE_gen (fun A5 hA5 => ?_)
  have s5 := tz hA5 s4
  have v5_1 := tn hA5 (by decide) v4_1
  have v5_9 := tn hA5 (by decide) v4_9
  have v5_13 := te hA5 s4 (by decide)
  refine AnyE.tk (i := 5) (.slice al nx cl) rfl (by kernel_rfl) (fun _ _ _ h => h) (by rfl) (fun wq hq => op_move v5_1) hS ?_
  refine anyE_gen (fun A6 hA6 => ?_)
  have s6 := tz hA6 s5
  have v6_9 := tn hA6 (by decide) v5_9
  have v6_13 := tn hA6 (by decide) v5_13
  have v6_14 := te hA6 s5 (by decide)
  refine AnyE.one (i := 6) rfl (by kernel_rfl) (by rfl) (fun K6 hK6 => ?_)
  refine wp_cloneAllA v6_14 HCl.out ?_
  rintro r1 w2 ⟨v2, zs, rfl, cl2, hd2⟩
  obtain ⟨a1, c1, rfl⟩ := rows_form3 cl2.row
  obtain ⟨m1, hm1⟩ : ∃ m, m = zs.length := ⟨_, rfl⟩
  rw [← hm1] at cl2
  refine ⟨_, by rw [← hm1], ?_⟩
  have hS1 := HS.out w2 (cl2.below.block g HlG.out)
  refine hK6.out _ _ ⟨fun _ => hS1, ?_⟩
  clear hK6
  refine anyE_gen (fun A7 hA7 => ?_)
  have s7 := tz hA7 s6
  have v7_9 := tn hA7 (by decide) v6_9
  have v7_13 := tn hA7 (by decide) v6_13
  have v7_15 := te hA7 s6 (by decide)
  refine AnyE.one (i := 7) rfl (by kernel_rfl) (by rfl) (fun K7 hK7 => ?_)
  refine wp_buildL1 v7_15 ?_
  have B1 := (Below.refl w2.heap.size w2).alloc (Nat.le_refl _) (.cells #[.slice a1 m1 c1] 28)
  have hz3 := (B1.block g (Nat.lt_of_lt_of_le HlG.out cl2.below.size)).trans (cl2.below.block g HlG.out)
  have hS3 := HS.out _ hz3
  refine hK7.out _ _ ⟨fun _ => hS3, ?_⟩
  clear hK7
  refine anyE_gen (fun A8 hA8 => ?_)
  have s8 := tz hA8 s7
  have v8_9 := tn hA8 (by decide) v7_9
  have v8_13 := tn hA8 (by decide) v7_13
  have v8_16 := te hA8 s7 (by decide)
  refine AnyE.one (i := 8) rfl (by kernel_rfl) (by rfl) (fun K8 hK8 => ?_)
  refine wp_append_ll1 (us := us) (u1 := .slice a1 m1 c1) (.tmp 13) (.tmp 16) rfl (ev_tmp v8_13) (HrW.out w2 cl2.below) rfl (ev_tmp v8_16) HLen.out (Nat.le_trans HNw.out cl2.below.size) ?_
  intro a3 n3 c3 w3 en hr3 g3 lo3
  have hz2 := (HgW.out _ w3 g3 (Nat.lt_of_lt_of_le HlG.out (Nat.le_trans cl2.below.size B1.size))).trans hz3
  have hS2 := HS.out w3 hz2
  have hfz2 : w3.frozen? ⟨g, 5, none⟩ = false := HFz.out w3 hz2
  refine hK8.out _ _ ⟨fun _ => hS2, ?_⟩
  clear hK8
  refine anyE_gen (fun A9 hA9 => ?_)
  have s9 := tz hA9 s8
  have v9_9 := tn hA9 (by decide) v8_9
  have v9_17 := te hA9 s8 (by decide)
  refine AnyE.one (i := 9) rfl (by kernel_rfl) (by rfl) (fun K9 hK9 => ?_)
  refine wp_nil0 v9_9 ?_
  refine hK9.out _ _ ⟨fun _ => hS2, ?_⟩
  clear hK9
  refine anyE_gen (fun A10 hA10 => ?_)
  have s10 := tz hA10 s9
  have v10_17 := tn hA10 (by decide) v9_17
  have v10_18 := te hA10 s9 (by decide)
  refine AnyE.one (i := 10) rfl (by kernel_rfl) (by rfl) (fun K10 hK10 => ?_)
  refine wp_fieldW v10_18 ?_
  refine hK10.out _ _ ⟨fun _ => hS2, ?_⟩
  clear hK10
  refine anyE_gen (fun A11 hA11 => ?_)
  have s11 := tz hA11 s10
  have v11_17 := tn hA11 (by decide) v10_17
  have v11_19 := te hA11 s10 (by decide)
  refine AnyE.one (i := 11) rfl (by kernel_rfl) (by rfl) (fun K11 hK11 => ?_)
  refine wp_storeLL hS2 hfz2 v11_19 v11_17 ?_
  refine hK11.out _ _ ⟨fun h => (by cases h), ?_⟩
  clear hK11
  refine AnyE.done (by kernel_rfl) (NoPanic.normal ?_) _
  clear s0 v0_0 v0_1 s1 v1_0 v1_1 v1_9 s2 v2_1 v2_9 v2_10 s3 v3_1 v3_9 v3_11 s4 v4_1 v4_9 v4_12 s5 v5_1 v5_9 v5_13 s6 v6_9 v6_13 v6_14 s7 v7_9 v7_13 v7_15 s8 v8_9 v8_13 v8_16 s9 v9_9 v9_17 s10 v10_17 v10_18 s11 v11_17 v11_19
  subst hA11 hA10 hA9 hA8 hA7 hA6 hA5 hA4 hA3 hA2 hA1 hA0
  have HFin : Hid (TP (w3.setCell ⟨g, 5, none⟩ (.slice a3 n3 c3))) := by
    obtain ⟨kp, hnb, hN, hR, hQ, sm, hx, hb, he⟩ := HAll.out
    obtain ⟨q, sp, es, wz, rx, lo1, dj1, hO1⟩ := HQ.out
    have hnW := HnW.out
    subst hnW
    subst hm1
    have smD : ∀ e ∈ xs.map EntD.dat, SmE e := fun e he => by
      obtain ⟨x, hx, rfl⟩ := List.mem_map.1 he
      exact sm x hx
    have kq := Kp.took (w := w1.drew) (D := xs.map EntD.dat) (q.keep (wr := w1.drew) (fun _ _ => rfl)) (by rw [List.length_append, kp.le]; rfl) (fun i p hp => ⟨(es i p hp).1.keep (w' := w1.drew) (fun _ _ => rfl), (es i p hp).2⟩) (wz.keep (w' := w1.drew) (fun _ _ => rfl)) dj1 lo1 (fun k hk => ⟨(kp.lt k (kp.inF k hk)).1, Nat.lt_of_lt_of_le (kp.lt k (kp.inF k hk)).2 sp.size⟩) (Nat.le_trans hN sp.size) cl2 hd2 smD (by rw [List.length_map]; exact hx) en hr3 g3 lo3
    have s13 : w1.heap.size ≤ w3.heap.size := Nat.le_trans cl2.below.size (Nat.le_trans B1.size g3.size)
    have hsz : (w3.setCell ⟨g, 5, none⟩ (.slice a3 n3 c3)).heap.size = w3.heap.size := World.size_setCell _ _ _
    have hw1 := sp.size
    unfold Hid
    rw [HTP.out]
    show TakeP w _ N g _ _ P Q vx xs
    rw [HGoal.out]
    refine ⟨_, ⟨_, _, _, _, _, _, _, _, _, _, _, _, _, _, _, kq.2.1, by rw [List.length_append, items_len, hnb]⟩, fun k hk => ?_, ?_, ?_⟩
    · rw [hsz]
      rcases hk with z | z | z
      · rw [hO1] at z
        rcases z with z | z | z
        · exact .inl (kp.inO k z)
        · exact .inr (.inl z)
        · exact .inr (.inr ⟨z.1, by omega⟩)
      · exact .inl (kp.inF k z)
      · exact .inr (.inr ⟨by have := z.1; show w.heap.size ≤ k; exact Nat.le_trans hw1 this, z.2⟩)
    · refine SpF.then (sp.mono (fun k _ hk => kp.inO k hk)) ⟨kq.2.2.1.os, kq.2.2.1.tape, kq.2.2.1.output, kq.2.2.1.size, kq.2.2.1.block⟩ (fun k hk z => ?_)
      rcases z with z | z
      · rw [z]; exact kp.inO _ kp.bq.inR.1
      · exact kp.inF k (kp.wz.rowF k z)
    · exact rx.keepT kq.2.2.2.1 kq.2.2.2.2
  obtain ⟨Wn, hWn⟩ : ∃ Y, Y = w3.setCell ⟨g, 5, none⟩ (.slice a3 n3 c3) := ⟨_, rfl⟩
  rw [← hWn] at HFin ⊢
  clear hWn hS hS1 hS2 hS3 g3 hr3 lo3 en hm1 B1 hfz2 HS HFz HgW HrW HLen HCl HNw HlG cl2 hd2 hz2 hz3
  go_simp
  go_wp2
  refine bodyPost_end (v := .tuple #[]) (by first | rfl | kernel_rfl) rfl ?_
  exact ⟨rfl, HFin.out⟩
end Go.Proofs.YthhkpkfpifllkaaGreat
