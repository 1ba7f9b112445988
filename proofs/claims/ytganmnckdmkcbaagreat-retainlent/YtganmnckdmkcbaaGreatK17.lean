import Derived.Test.YtganmnckdmkcbaaGreatK16
import Derived.Deep.CutRange
namespace Go.Proofs.YtganmnckdmkcbaaGreat
open Go.RowKit
set_option linter.unusedVariables false

section
variable {fs : List (Int × Int)} {c d : Int}
theorem nothing_back {m M : List En} (hc : c ≤ d) (hs : m.Pairwise Ah) (hS : M.Pairwise Ah) (sub : ∀ e ∈ m, e ∈ M) {x : En} (hx : x ∈ m) (k : x.kind = 1) (h : (sv fs d M x).fate = 5) : (sv fs c m x).fate = 5 := by
  obtain ⟨h3, hd, hp, hm, he, ha⟩ := (five_iff (sub x hx)).1 h
  have hm' : maskOf m x < x.ts := by have := maskOf_sub (m := M) (r := m) (fun y hy _ => sub y hy) x; omega
  have he' := exp_early hc he
  refine (five_iff hx).2 ⟨h3, decides_sub sub hd, hasPut_iff.2 ⟨x, hx, gpE_self h3, by omega⟩, hm', he', ?_⟩
  have : above fs c m x ≤ above fs d M x := by
    rw [← ups_len, ← ups_len]
    refine Int.ofNat_le.2 (sub_len (desc_nodup (ups_desc (fs := fs) (clock := c) hs x)) fun t ht => ?_)
    have := (ups_mem hs h3 hm' he' t).1 ht
    exact (ups_mem hS h3 hm he t).2 ⟨this.1, this.2.mono sub (mates_iff.2 ⟨rfl, rfl, rfl⟩)⟩
  omega
theorem left_or_full {m : List En} {low : Int} {major : Bool} (hs : m.Pairwise Ah) (hM : ∀ i, 0 ≤ (famAt fs i).1) {x : En} (hx : x ∈ m) (x3 : x.kind ≤ 3) (xd : decidesS m x = true) (hp : hasPut m x = true) (xm : maskOf m x < x.ts) (xe : expS fs c x = false) : hk x ∈ leftL fs c m major low ∨ Full fs (leftL fs c m major low) x := by
  have kept5 : ∀ y ∈ m, counts fs c m y = true → above fs c m y + 1 ≤ (famAt fs y.fam).1 → hk y ∈ leftL fs c m major low := fun y hy hc ha => by
    have c := (counts_put hy).1 hc
    refine left_mem.2 ⟨y, hy, five_stays ((five_iff hy).2 ⟨c.1, c.2.1, c.2.2.1, c.2.2.2.1, c.2.2.2.2, ha⟩) major, tld_hk c.1 c.2.1 c.2.2.1⟩
  by_cases ha : above fs c m x + 1 ≤ (famAt fs x.fam).1
  · exact .inl (kept5 x hx ((counts_put hx).2 ⟨x3, xd, hp, xm, xe⟩) ha)
  · right
    refine full_of hs x3 xm xe (hM _) (by omega) _ fun y hy yc yM yt ya => ?_
    have f : y.fam = x.fam := (mates_iff.1 yM).2.1
    have h5 := kept5 y hy yc (by rw [f]; exact ya)
    have k3 := (counts_put hy).1 yc
    obtain ⟨b1, b2, b3, b4, b5, b6, b7⟩ := hk_eq y
    have yM' := mates_iff.1 yM
    exact ⟨hk y, h5, by omega, mates_iff.2 ⟨b1.trans yM'.1, b2.trans yM'.2.1, b3.trans yM'.2.2⟩, b4⟩
theorem hk_hk (x : En) : hk (hk x) = hk x := by
  unfold hk
  by_cases z : x.kind = 3 <;> simp [z]
theorem major_wk {m b M R : List En} {low : Int} (hc : c ≤ d) (hs : m.Pairwise Ah) (hv : ∀ e ∈ m, Va e) (hM : ∀ i, 0 ≤ (famAt fs i).1) (hm : ∀ e, e ∈ M ↔ e ∈ m ∨ e ∈ b) (hr : ∀ e, e ∈ R ↔ e ∈ leftL fs c m true low ∨ e ∈ b) (hb : ∀ y ∈ b, low < y.ts ∧ ∀ x ∈ m, x.seq < y.seq) : Wk5 fs d M R := by
  have iM : ∀ e ∈ m, e ∈ M := fun e he => (hm e).2 (.inl he)
  have lR : ∀ e ∈ leftL fs c m true low, e ∈ R := fun e he => (hr e).2 (.inl he)
  have bR : ∀ e ∈ b, e ∈ R := fun e he => (hr e).2 (.inr he)
  have bM : ∀ e ∈ b, e ∈ M := fun e he => (hm e).2 (.inr he)
  have lm : ∀ y ∈ leftL fs c m true low, y.kind ≤ 3 → ∃ x ∈ m, gpE x y = true ∧ x.seq = y.seq ∧ maskOf m x < x.ts ∧ (y.kind ≤ 2 → hasPut m x = true) := fun y hy y3 => by
    obtain ⟨x, hx, p, rfl⟩ := left_mem.1 hy
    obtain ⟨a1, a2, a3, a4, a5, a6, a7⟩ := tld_eq m x
    have x3 : x.kind ≤ 3 := by omega
    have st := stays_ver x3 p
    refine ⟨x, hx, gpE_iff.2 ⟨x3, y3, a1.symm, a2.symm, a3.symm, a4.symm⟩, a5.symm, st.2.1, fun k => ?_⟩
    rw [tld_ver x3 st.1] at k
    exact (kd_put hx x3).1 (by simp only at k; omega)
  have lmk : ∀ y ∈ R, 4 ≤ y.kind → y ∈ M := fun y hy y4 => by
    rcases (hr y).1 hy with q | q
    · obtain ⟨x, hx, p, rfl⟩ := left_mem.1 q
      obtain ⟨a1, a2, a3, a4, a5, a6, a7⟩ := tld_eq m x
      have : tld m x = x := by unfold tld; rw [if_pos (by omega)]
      rw [this]; exact iM x hx
    · exact bM y q
  have dR : ∀ x ∈ M, ∀ y : En, hk y = hk x → x.kind ≤ 3 → decidesS M x = true → decidesS R y = true := fun x hx y e x3 hd => by
    obtain ⟨a1, a2, a3, a4, a5, a6⟩ := hk_inj e
    refine decides_iff.2 fun z hz g => ?_
    obtain ⟨g1, g2, g3, g4, g5, g6⟩ := gpE_iff.1 g
    have gx : gpE z x = true := gpE_iff.2 ⟨g1, x3, g3.trans a1, g4.trans a2, g5.trans a3, g6.trans a4⟩
    rcases (hr z).1 hz with q | q
    · obtain ⟨u, hu, gu, sq, _⟩ := lm z q g1
      have := decides_iff.1 hd u (iM u hu) (gpE_trans gu gx)
      omega
    · have := decides_iff.1 hd z (bM z q) gx
      omega
  refine ⟨fun y hy y3 => ?_, maskOf_sub lmk, fun y hy y3 ym => ?_, fun x hx x3 xd xp xm xe => ?_⟩
  · rcases (hr y).1 hy with q | q
    · obtain ⟨x, hx, g, _, _, p⟩ := lm y q y3
      exact ⟨x, iM x hx, g, fun k => hasPut_sub iM (gpE_self (gpE_iff.1 g).1) (p k)⟩
    · exact ⟨y, bM y q, gpE_self y3, fun k => hasPut_iff.2 ⟨y, bM y q, gpE_self y3, by omega⟩⟩
  · by_cases hlt : maskOf M y < y.ts
    · exact hlt
    · exfalso
      rcases maskOf_att M y with h0 | ⟨z, hz, cz, tz⟩
      · have := maskOf_nn R y
        omega
      · rcases (hm z).1 hz with q | q
        · have h1 := maskOf_le q cz
          rcases (hr y).1 hy with p | p
          · obtain ⟨x, hx, g, _, xm, _⟩ := lm y p y3
            obtain ⟨g1, g2, g3, g4, g5, g6⟩ := gpE_iff.1 g
            rw [mask_mates (mates_of g) g1 y3] at xm
            omega
          · rcases top_mark hs hv y with h0 | ⟨w, hw, cw, tw, sw⟩
            · have := maskOf_nn R y
              omega
            · have := (hb y p).1
              have w4 : 4 ≤ w.kind := by rcases (cover_iff.1 cw).2.2 with k | ⟨k, _⟩ <;> omega
              have wL := (major_mem (fs := fs) (clock := c) (m := m) (low := low) (z := w)).2 (.inr ⟨hw, w4, sw, by omega⟩)
              have := maskOf_le (lR w wL) cw
              omega
        · have := maskOf_le (bR z q) cz
          omega
  · have mA : ∀ e : En, maskOf m e ≤ maskOf M e := maskOf_sub (fun y hy _ => iM y hy)
    rcases (hm x).1 hx with q | q
    · have hput : hasPut m x = true := by
        obtain ⟨z, hz, g, k⟩ := hasPut_iff.1 xp
        rcases (hm z).1 hz with p | p
        · exact hasPut_iff.2 ⟨z, p, g, k⟩
        · have := (hb z p).2 x q
          have := decides_iff.1 xd z hz g
          omega
      rcases left_or_full (c := c) (major := true) (low := low) hs hM q x3 (decides_sub iM xd) hput (by have := mA x; omega) (exp_early hc xe) with h | h
      · obtain ⟨b1, b2, b3, b4, b5, b6, b7⟩ := hk_eq x
        exact .inl ⟨hk x, lR _ h, hk_hk x, by omega, dR x hx _ (hk_hk x) x3 xd, hasPut_iff.2 ⟨hk x, lR _ h, gpE_self (by omega), by omega⟩⟩
      · exact .inr (h.mono lR (mates_iff.2 ⟨rfl, rfl, rfl⟩) (Int.le_refl _))
    · by_cases hf : Full fs R x
      · exact .inr hf
      · refine .inl ⟨x, bR x q, rfl, x3, dR x hx x rfl x3 xd, ?_⟩
        obtain ⟨z, hz, g, k⟩ := hasPut_iff.1 xp
        rcases (hm z).1 hz with p | p
        · obtain ⟨u, hu, gu, ud⟩ := decider hs p (gpE_iff.1 g).1
          have gx := gpE_trans gu g
          obtain ⟨u3, _, c1, c2, c3, c4⟩ := gpE_iff.1 gx
          have Mu := mates_of gx
          rcases left_or_full (c := c) (major := true) (low := low) hs hM hu u3 ud (hasPut_iff.2 ⟨z, p, gpE_symm gu, k⟩) (by have h9 := mA x; rw [mask_mates Mu u3 x3]; omega) (by rw [exp_mates c2 c4]; exact exp_early hc xe) with h | h
          · obtain ⟨b1, b2, b3, b4, b5, b6, b7⟩ := hk_eq u
            exact hasPut_iff.2 ⟨hk u, lR _ h, gpE_iff.2 ⟨by omega, x3, b1.trans c1, b2.trans c2, b3.trans c3, b4.trans c4⟩, by omega⟩
          · exact absurd (h.mono lR Mu (by omega)) hf
        · exact hasPut_iff.2 ⟨z, bR z p, g, k⟩
end
end Go.Proofs.YtganmnckdmkcbaaGreat

namespace Go.Proofs.YtganmnckdmkcbaaGreat
open Go.RowKit Go.Maps
set_option linter.unusedVariables false
theorem show_len (tm n : Int) : ∀ (vs : List Vd), (showS tm n vs).2.length ≤ vs.length := by
  have key : ∀ (vs : List Vd) (s : Int × List En), (vs.foldl (showStep tm n) s).2.length ≤ s.2.length + vs.length := by
    intro vs
    induction vs with
    | nil => intro s; exact Nat.le_refl _
    | cons v vs ih =>
      intro s
      rw [List.foldl_cons]
      refine Nat.le_trans (ih _) ?_
      have : (showStep tm n s v).2.length ≤ s.2.length + 1 := by
        unfold showStep
        generalize (if v.rank = 1 then (0 : Int) else s.1) = q
        split
        · simp
        · simp
      simp only [List.length_cons]
      omega
  intro vs
  have := key vs (0, [])
  rw [List.length_nil, Nat.zero_add] at this
  exact this
theorem verd_len {fs : List (Int × Int)} {clock : Int} (l : List En) : (verdictsS fs clock l).length ≤ l.length := by
  have h := (walk_len (fs := fs) (clock := clock) l).1
  unfold verdictsS
  rw [List.length_append, resolve_len]
  omega
theorem famAt_one {fs : List FamD} (h : SchemaOk fs) {i : Int} (h0 : 0 ≤ i) (hk : i < fs.length) : 1 ≤ (famAt (mt fs) i).1 := by
  unfold famAt mt
  rw [List.getD_eq_getElem?_getD, List.getElem?_map]
  cases hf : fs[i.toNat]? with
  | none =>
    have := List.getElem?_eq_none_iff.1 hf
    omega
  | some f => simpa using (h.2 i.toNat f hf).1.2.1.1
theorem IsOrd.max {fs : List FamD} {l m : List En} (h : IsOrd fs.length l m) (hS : SchemaOk fs) : ∀ e ∈ m, 1 ≤ (famAt (mt fs) e.fam).1 := fun e he => by
  have ck := check_zero.1 (h.ck e he)
  simp only [EntD.ofEn] at ck
  exact famAt_one hS (by have := ck.1.2.1; omega) (by have := ck.2; omega)
section
variable {W : World} {cap fc : Nat} {a fa : Option Addr} {fs : List FamD} {l : List EntD}
theorem read_both (hr : RdF W (.slice fa fs.length fc) fs) (hn : fa = none → fc = 0) (C : Nat) (hC : (C = 0 ↔ SchemaOk fs) ∧ (C = 0 ∨ C = 28)) (clock t n : Int) (h0 : RdL3 W a cap l) (hl : l.length ≤ 1353245080300) (hi : inOrderE (check3S fs.length) l = 0) {m : List En} (hm : IsOrd fs.length (l.map EntD.dat) m) :
    Calls Tryz.prog 21 #[.agg #[.slice fa fs.length fc], .int .i64 clock, .int .i64 t, .int .i64 n, .slice a l.length cap] W fun r W' => Below W.heap.size W W' ∧ ∃ (zs : List EntD) (a' : Option Addr) (c' : Nat), r = .returned (.tuple #[.slice a' zs.length c', .int .i64 (readerS C clock t n)]) ∧ RdL3 W' a' c' zs ∧ zs.map EntD.dat = (if readerS C clock t n = 0 then (showS t n (verdictsS (mt fs) clock m)).2 else []) ∧ zs.length ≤ l.length := by
  refine Calls.mono (read_any sort_ok hr hn C hC clock t n h0 hl) ?_
  rintro r W' ⟨h1, h2, h3⟩
  by_cases hz : readerS C clock t n = 0
  · have hE : readE C fs clock t n l = 0 := by unfold readE; rw [if_neg (by simpa using hz)]; exact hi
    obtain ⟨xs, ys, zs, v, O, k1, k2, k3, k4, k5, k6⟩ := h3 hE
    have ho := isOrd_of hi k1 k2 k3
    rw [ho.unique hm] at k6 ho
    have hc0 : C = 0 := by
      unfold readerS at hz
      by_cases b : boundsS C [clock, t] = 0
      · unfold boundsS at b
        by_cases c : C = 0
        · exact c
        · rw [if_pos c] at b; omega
      · rw [if_pos b] at hz; exact absurd hz b
    have hM : ∀ e ∈ (showS t n (verdictsS (mt fs) clock m)).2, ByE e := fun e he => by
      have key : ∀ (vs : List Vd) (s : Int × List En), e ∈ (vs.foldl (showStep t n) s).2 → e ∈ s.2 ∨ ∃ v ∈ vs, v.e = e := by
        intro vs
        induction vs with
        | nil => intro s h; exact .inl h
        | cons v vs ih =>
          intro s h
          rw [List.foldl_cons] at h
          rcases ih _ h with q | ⟨u, hu, q⟩
          · unfold showStep at q
            generalize (if v.rank = 1 then (0 : Int) else s.1) = q9 at q
            split at q
            · rcases List.mem_append.1 q with q | q
              · exact .inl q
              · rw [List.mem_singleton] at q
                exact .inr ⟨v, List.mem_cons_self, q.symm⟩
            · exact .inl q
          · exact .inr ⟨u, List.mem_cons_of_mem _ hu, q⟩
      rw [show_five (ho.max (hC.1.1 hc0)) ho.ah ho.va] at he
      rcases key _ _ he with q | ⟨v, hv, rfl⟩
      · cases q
      · obtain ⟨e', he', rfl⟩ := List.mem_map.1 hv
        obtain ⟨x, hx, rfl⟩ := List.mem_map.1 he'
        exact tld_by _ (h0.by x ((ho.mem x).1 (List.mem_filter.1 hx).1))
    obtain ⟨a', c', hv, _, hrd⟩ := k5.rdl (fun x hx => by
      have : x.dat ∈ zs.map EntD.dat := List.mem_map_of_mem hx
      rw [k6] at this
      exact hM _ this)
    refine ⟨h1, zs, a', c', by rw [k4, hv, hz], hrd, by rw [if_pos hz]; exact k6, ?_⟩
    have e := congrArg List.length k6
    rw [List.length_map] at e
    rw [e]
    refine Nat.le_trans (show_len _ _ _) (Nat.le_trans (verd_len _) ?_)
    have e2 := congrArg List.length ((isOrd_of hi k1 k2 k3).unique hm)
    rw [List.length_map] at e2
    rw [← e2, k2.length_eq]
    exact onceS_len k1
  · have hE : readE C fs clock t n l = readerS C clock t n := by unfold readE; rw [if_pos hz]
    refine ⟨h1, [], none, 0, by rw [h2 (by rw [hE]; exact hz), hE]; rfl, ⟨⟨Nat.le_refl _, Nat.zero_le _⟩, .inl rfl, fun x hx => by cases hx⟩, by rw [if_neg hz]; rfl, Nat.zero_le _⟩
theorem vis_both (hr : RdF W (.slice fa fs.length fc) fs) (hn : fa = none → fc = 0) (C : Nat) (hC : (C = 0 ↔ SchemaOk fs) ∧ (C = 0 ∨ C = 28)) (clock : Int) (h0 : RdL3 W a cap l) (hl : l.length ≤ 1353245080300) (hE : visE C fs clock l = 0) {m : List En} (hm : IsOrd fs.length (l.map EntD.dat) m) :
    Calls Tryz.prog 19 #[.agg #[.slice fa fs.length fc], .int .i64 clock, .slice a l.length cap] W fun r W' => Below W.heap.size W W' ∧ ∃ (zs : List EntD) (a' : Option Addr) (c' : Nat), r = .returned (.tuple #[.slice a' zs.length c', .int .i64 0]) ∧ RdL3 W' a' c' zs ∧ zs.map EntD.dat = (showS 1099511627776 16 (verdictsS (mt fs) clock m)).2 ∧ zs.length ≤ l.length := by
  refine Calls.mono (vis_good hr hn C hC clock h0 hl hE) ?_
  rintro r W' ⟨h1, zs, m', a', c', ho, rfl, hrd, e, ln⟩
  have em := ho.unique hm
  subst em
  refine ⟨h1, zs, a', c', rfl, hrd, ?_, ln⟩
  rw [e, show_spec (fun i => famAt_mt (hC.1.1 (vis_zero hE).1) i) ho.ah ho.va]
theorem top_both (hr : RdF W (.slice fa fs.length fc) fs) (hn : fa = none → fc = 0) (C : Nat) (hC : (C = 0 ↔ SchemaOk fs) ∧ (C = 0 ∨ C = 28)) (clock : Int) (h0 : RdL3 W a cap l) (hl : l.length ≤ 1353245080300) (hE : visE C fs clock l = 0) {m : List En} (hm : IsOrd fs.length (l.map EntD.dat) m) :
    Calls Tryz.prog 25 #[.agg #[.slice fa fs.length fc], .int .i64 clock, .slice a l.length cap] W fun r W' => Below W.heap.size W W' ∧ r = .returned (.tuple #[.int .i64 (topS (verdictsS (mt fs) clock m)), .int .i64 0]) := by
  have hT : topE C fs clock l = 0 := by
    have hz := vis_zero hE
    unfold visE readE at hE
    have hr0 : readerS C clock 1099511627776 16 = 0 := by
      by_cases y : readerS C clock 1099511627776 16 = 0
      · exact y
      · rw [if_pos y] at hE; exact absurd hE y
    have hb := (reader_ok hr0).1
    have : boundsS C [clock] = 0 := by
      unfold boundsS at hb ⊢
      rw [if_neg (by simpa using hz.1)] at hb ⊢
      by_cases z : [clock, 1099511627776].any badT = true
      · rw [if_pos z] at hb; cases hb
      · rw [if_neg]
        simp [badT] at z ⊢
        omega
    unfold topE
    rw [if_neg (by simpa using this)]
    exact hz.2
  refine Calls.mono (top_any sort_ok hr hn C hC clock h0 hl) ?_
  rintro r W' ⟨h1, h2, h3⟩
  obtain ⟨xs, ys, k1, k2, k3, k4⟩ := h3 hT
  have em := (isOrd_of (vis_zero hE).2 k1 k2 k3).unique hm
  exact ⟨h1, by rw [k4, em]⟩
end
end Go.Proofs.YtganmnckdmkcbaaGreat

namespace Go.Proofs.YtganmnckdmkcbaaGreat
open Go.RowKit Go.Maps
set_option linter.unusedVariables false

theorem sch_box (W : World) (fa : Option Addr) (K fc : Nat) : ∃ X0, X0 = W.alloc (.cells #[.slice fa K fc] 27) ∧ Below W.heap.size W X0 ∧ ∀ Z, Below X0.heap.size X0 Z → Z.cell? ⟨W.heap.size, 0, none⟩ = some (.slice fa K fc) := by
  refine ⟨_, rfl, (Below.refl _ _).alloc (Nat.le_refl _) _, fun Z b => ?_⟩
  have hcell : (W.alloc (.cells #[.slice fa K fc] 27)).cell? ⟨W.heap.size, 0, none⟩ = some (.slice fa K fc) := cell_at9 (heap_new9 _ _ rfl) rfl
  exact (b.cell (p := ⟨W.heap.size, 0, none⟩) (World.block_lt_of_cell? _ _ hcell)).trans hcell
end Go.Proofs.YtganmnckdmkcbaaGreat

namespace Go.Proofs.YtganmnckdmkcbaaGreat
open Go.RowKit Go.Maps
set_option linter.unusedVariables false

theorem box1 (w : World) (a : EntD) : ∃ W, W = w.alloc (.cells a.cells 84) ∧ Below w.heap.size w W ∧ (∀ Z, Below W.heap.size W Z → EBox Z w.heap.size a) ∧ W.heap.size = w.heap.size + 1 :=
  ⟨_, rfl, (Below.refl _ _).alloc (Nat.le_refl _) _, fun Z k => (EBox.new w a).later k, by simp⟩
theorem box2 (w : World) (a b : EntD) : ∃ W, W = (w.alloc (.cells a.cells 84)).alloc (.cells b.cells 84) ∧ Below w.heap.size w W ∧ (∀ Z, Below W.heap.size W Z → EBox Z w.heap.size a ∧ EBox Z (w.heap.size + 1) b) := by
  have A1 := (Below.refl w.heap.size w).alloc (Nat.le_refl _) (.cells a.cells 84)
  refine ⟨_, rfl, A1.alloc A1.size _, fun Z k => ⟨((EBox.new w a).later ((Below.refl _ _).alloc (Nat.le_refl _) _)).later k, ?_⟩⟩
  have := EBox.new (w.alloc (.cells a.cells 84)) b
  rw [World.size_alloc] at this
  exact this.later k
set_option maxRecDepth 100000 in
theorem version_any {w : World} {a : EntD} : Calls Tryz.prog 61 #[.agg a.cells] w fun r w' => r = .returned (.bool (decide (a.kind ≤ 3))) ∧ Below w.heap.size w w' := by
  obtain ⟨W, hW, A, hb, -⟩ := box1 w a
  have HW := Lib.hid hW
  have HA := Lib.hid A
  have k := (hb W (Below.refl _ _)).kind
  unfold EntD.cells at HW ⊢
  clear hW A hb
  go_enter Tryz.func61, Tryz.ntmps61
  go_upto_region 1 with fail
  rw [← HW.out]
  clear HW
  go_wp2
  go_ret
  exact ⟨rfl, HA.out⟩
set_option maxRecDepth 100000 in
set_option maxHeartbeats 2000000 in
theorem mates_any {w : World} {a b : EntD} (ha : EntD.Ok w a) (hb : EntD.Ok w b) : Calls Tryz.prog 55 #[.agg a.cells, .agg b.cells] w fun r w' => r = .returned (.bool (mates a.dat b.dat)) ∧ Below w.heap.size w w' := by
  obtain ⟨W, hW, A, hbx⟩ := box2 w a b
  have HW := Lib.hid hW
  have HA := Lib.hid A
  obtain ⟨e1, e2⟩ := hbx W (Below.refl _ _)
  have x1 := e1.fam
  have x0 := e1.vr
  have x2 := e1.vq
  have y1 := e2.fam
  have y0 := e2.vr
  have y2 := e2.vq
  have HR : Hid (Calls Tryz.prog 78 #[a.vr, b.vr] W fun r w' => r = .returned (.bool (decide (a.row = b.row))) ∧ w' = W) := alike_any (ha.later A).1 (hb.later A).1
  have HQ : Hid (Calls Tryz.prog 78 #[a.vq, b.vq] W fun r w' => r = .returned (.bool (decide (a.qual = b.qual))) ∧ w' = W) := alike_any (ha.later A).2.1 (hb.later A).2.1
  obtain ⟨M, hM⟩ : ∃ M, M = mates a.dat b.dat := ⟨_, rfl⟩
  have HM : Hid (M = (decide (a.fam = b.fam) && decide (a.row = b.row) && decide (a.qual = b.qual))) := by
    unfold Hid
    rw [hM, Bool.eq_iff_iff, mates_iff]
    simp only [Bool.and_eq_true, decide_eq_true_eq, EntD.dat]
    exact ⟨fun ⟨p, q, r⟩ => ⟨⟨q, p⟩, r⟩, fun ⟨⟨q, p⟩, r⟩ => ⟨p, q, r⟩⟩
  rw [← hM]
  unfold EntD.cells at HW ⊢
  clear hW A hbx e1 e2 ha hb hM
  go_enter Tryz.func55, Tryz.ntmps55
  go_upto_region 1 with fail
  rw [← HW.out]
  clear HW
  by_cases c1 : a.fam = b.fam
  · have d1 : (a.fam == b.fam) = true := by simpa using c1
    by_cases c2 : a.row = b.row
    · rw [decide_eq_true c2] at HR
      by_cases c3 : a.qual = b.qual
      · rw [decide_eq_true c3] at HQ
        have q : Hid (M = true) := by unfold Hid; rw [HM.out]; simp [c1, c2, c3]
        clear c1 c2 c3 HM
        go_wp2_with (first | (have hq := T1; clear hq; (go_at_call 78; refine Calls.mono HQ.out ?_; rintro r w' ⟨rfl, rfl⟩)) | (go_at_call 78; refine Calls.mono HR.out ?_; rintro r w' ⟨rfl, rfl⟩; have T1 : True := trivial))
        go_ret
        exact ⟨by rw [q.out]; rfl, HA.out⟩
      · rw [decide_eq_false c3] at HQ
        have q : Hid (M = false) := by unfold Hid; rw [HM.out]; simp [c3]
        clear c1 c2 c3 HM
        go_wp2_with (first | (have hq := T1; clear hq; (go_at_call 78; refine Calls.mono HQ.out ?_; rintro r w' ⟨rfl, rfl⟩)) | (go_at_call 78; refine Calls.mono HR.out ?_; rintro r w' ⟨rfl, rfl⟩; have T1 : True := trivial))
        go_ret
        exact ⟨by rw [q.out]; rfl, HA.out⟩
    · rw [decide_eq_false c2] at HR
      have q : Hid (M = false) := by unfold Hid; rw [HM.out]; simp [c2]
      clear c1 c2 HM
      go_wp2_with (first | (go_at_call 78; refine Calls.mono HR.out ?_; rintro r w' ⟨rfl, rfl⟩))
      go_ret
      exact ⟨by rw [q.out]; rfl, HA.out⟩
  · have d1 : (a.fam == b.fam) = false := by simpa using c1
    have q : Hid (M = false) := by unfold Hid; rw [HM.out]; simp [c1]
    clear c1 HM
    go_wp2
    go_ret
    exact ⟨by rw [q.out]; rfl, HA.out⟩
end Go.Proofs.YtganmnckdmkcbaaGreat

namespace Go.Proofs.YtganmnckdmkcbaaGreat
open Go.RowKit
set_option linter.unusedVariables false

theorem maskOf_snoc (p : List En) (x e : En) : maskOf (p ++ [x]) e = if cover x e then max (maskOf p e) x.ts else maskOf p e := by
  have nn := maskOf_nn p e
  induction p with
  | nil => simp only [List.nil_append, maskOf_cons]; unfold maskOf; simp only [List.foldr_nil]; split <;> omega
  | cons y p ih =>
    rw [List.cons_append, maskOf_cons, maskOf_cons, ih (maskOf_nn p e)]
    repeat' split
    all_goals omega
def gv (x e : En) : Bool := decide (x.kind ≤ 3) && decide (x.ts = e.ts) && mates x e
theorem gv_gp {x e : En} (h3 : e.kind ≤ 3) : gv x e = gpE x e := by
  rw [Bool.eq_iff_iff, gpE_iff]
  unfold gv
  simp only [Bool.and_eq_true, decide_eq_true_eq, mates_iff]
  exact ⟨fun ⟨⟨a, b⟩, c⟩ => ⟨a, h3, c.1, c.2.1, c.2.2, b⟩, fun ⟨a, _, b, c, d, e⟩ => ⟨⟨a, e⟩, b, c, d⟩⟩
def gputs (m : List En) (e : En) : Nat := (m.filter fun x => gv x e && decide (x.kind ≠ 3)).length
theorem gputs_snoc (p : List En) (x e : En) : gputs (p ++ [x]) e = if gv x e = true ∧ x.kind ≠ 3 then gputs p e + 1 else gputs p e := by
  unfold gputs
  rw [List.filter_append, List.length_append]
  by_cases h : gv x e = true ∧ x.kind ≠ 3
  · rw [if_pos h]; simp [h.1, h.2]
  · rw [if_neg h]
    have : (gv x e && decide (x.kind ≠ 3)) = false := by
      cases g : gv x e with
      | false => rfl
      | true => simp only [Bool.true_and, decide_eq_false_iff_not]; exact fun z => h ⟨g, z⟩
    simp only [List.filter_cons, this, List.filter_nil]
    simp
theorem gputs_pos {m : List En} {e : En} (h3 : e.kind ≤ 3) : 0 < gputs m e ↔ hasPut m e = true := by
  unfold gputs
  rw [List.length_pos_iff_exists_mem, hasPut_iff]
  constructor
  · rintro ⟨x, hx⟩
    obtain ⟨a, b⟩ := List.mem_filter.1 hx
    simp only [Bool.and_eq_true, decide_eq_true_eq] at b
    exact ⟨x, a, by rw [← gv_gp h3]; exact b.1, b.2⟩
  · rintro ⟨x, hx, g, k⟩
    exact ⟨x, List.mem_filter.2 ⟨hx, by simp only [Bool.and_eq_true, decide_eq_true_eq]; exact ⟨by rw [gv_gp h3]; exact g, k⟩⟩⟩
structure Bst (p : List En) (e b : En) : Prop where
  at_ : b = e ∨ (b ∈ p ∧ gv b e = true)
  low : e.seq ≤ b.seq
  all : ∀ x ∈ p, gv x e = true → x.seq ≤ b.seq
theorem Bst.nil (e : En) : Bst [] e e := ⟨.inl rfl, Int.le_refl _, fun x hx => by cases hx⟩
theorem Bst.keep {p : List En} {e b x : En} (h : Bst p e b) (hx : gv x e = true → x.seq ≤ b.seq) : Bst (p ++ [x]) e b := by
  refine ⟨?_, h.low, fun y hy g => ?_⟩
  · rcases h.at_ with z | ⟨z, g⟩
    · exact .inl z
    · exact .inr ⟨List.mem_append_left _ z, g⟩
  · rcases List.mem_append.1 hy with q | q
    · exact h.all y q g
    · rw [List.mem_singleton] at q
      subst q
      exact hx g
theorem Bst.next {p : List En} {e b x : En} (h : Bst p e b) (g : gv x e = true) (hx : b.seq < x.seq) : Bst (p ++ [x]) e x := by
  refine ⟨.inr ⟨by simp, g⟩, by have := h.low; omega, fun y hy gy => ?_⟩
  rcases List.mem_append.1 hy with q | q
  · have := h.all y q gy; omega
  · rw [List.mem_singleton] at q
    subst q
    exact Int.le_refl _
def gkind (b : En) (n : Nat) : Int := if b.kind = 3 then (if 0 < n then 2 else 0) else b.kind
theorem Bst.dec {m : List En} {e b : En} (h : Bst m e b) (h3 : e.kind ≤ 3) (he : e ∈ m) : (b.seq == e.seq) = decidesS m e := by
  rw [Bool.eq_iff_iff, beq_iff_eq, decides_iff]
  constructor
  · intro z x hx g
    have := h.all x hx (by rw [gv_gp h3]; exact g)
    omega
  · intro z
    have hl := h.low
    rcases h.at_ with q | ⟨q, g⟩
    · rw [q]
    · have := z b q (by rw [← gv_gp h3]; exact g)
      omega
theorem Bst.mem {m : List En} {e b : En} (h : Bst m e b) (he : e ∈ m) (h3 : e.kind ≤ 3) : b ∈ m ∧ gpE b e = true := by
  rcases h.at_ with q | ⟨q, g⟩
  · subst q; exact ⟨he, gpE_self h3⟩
  · exact ⟨q, by rw [← gv_gp h3]; exact g⟩
theorem Bst.zero {m : List En} {e b : En} (h : Bst m e b) (hv : ∀ e ∈ m, Va e) (h3 : e.kind ≤ 3) (he : e ∈ m) : gkind b (gputs m e) = 0 ↔ hasPut m e = false := by
  obtain ⟨bm, g⟩ := h.mem he h3
  have k1 := (hv b bm).k1
  unfold gkind
  cases hp : hasPut m e with
  | true =>
    have := (gputs_pos h3).2 hp
    split
    · simp
    · simp; omega
  | false =>
    have n0 : ¬ 0 < gputs m e := fun z => by rw [(gputs_pos h3).1 z] at hp; cases hp
    have b3 : b.kind = 3 := by
      by_cases z : b.kind = 3
      · exact z
      · rw [hasPut_iff.2 ⟨b, bm, g, z⟩] at hp; cases hp
    simp [b3, n0]
theorem Bst.kind {m : List En} {e b : En} (h : Bst m e b) (hn : m.Pairwise fun a b => a.seq ≠ b.seq) (hv : ∀ e ∈ m, Va e) (h3 : e.kind ≤ 3) (he : e ∈ m) (hd : decidesS m e = true) (hp : hasPut m e = true) (pe : ∀ {x y : En}, x ∈ m → y ∈ m → x.seq = y.seq → x = y) : gkind b (gputs m e) = (hk e).kind := by
  have hs : b.seq = e.seq := by have := h.dec h3 he; rw [hd] at this; simpa using this
  obtain ⟨bm, g⟩ := h.mem he h3
  have e1 := pe bm he hs
  subst e1
  have n0 := (gputs_pos h3).2 hp
  unfold gkind hk
  by_cases z : b.kind = 3
  · simp [z, n0]
  · simp [z]
section
variable {fs : List (Int × Int)} {clock : Int}
def ranks (fs : List (Int × Int)) (clock : Int) (m : List En) (e x : En) : Bool := decide (x.kind ≤ 3) && decide (e.ts < x.ts) && mates x e && hasPut m x && decidesS m x && (decide (maskOf m x < x.ts) && !expS fs clock x)
theorem ranks_above {m : List En} {e : En} : ((m.filter (ranks fs clock m e)).length : Int) = above fs clock m e := by
  unfold above
  congr 2
  apply List.filter_congr
  intro x hx
  rw [Bool.eq_iff_iff]
  unfold ranks
  simp only [Bool.and_eq_true, decide_eq_true_eq, Bool.not_eq_true', counts_put hx]
  constructor
  · rintro ⟨⟨⟨⟨⟨a, b⟩, c⟩, d⟩, f⟩, g, h⟩
    exact ⟨⟨⟨a, f, d, g, h⟩, c⟩, b⟩
  · rintro ⟨⟨⟨a, f, d, g, h⟩, c⟩, b⟩
    exact ⟨⟨⟨⟨⟨a, b⟩, c⟩, d⟩, f⟩, g, h⟩
def visB (fs : List (Int × Int)) (clock : Int) (m : List En) (x : En) : Bool := decide (x.kind = 1) && (decidesS m x && (decide (maskOf m x < x.ts) && !expS fs clock x) && decide (above fs clock m x + 1 ≤ (famAt fs x.fam).1))
theorem visB_five {m : List En} {x : En} (hx : x ∈ m) : visB fs clock m x = (decide (x.kind = 1) && decide ((sv fs clock m x).fate = 5)) := by
  rw [Bool.eq_iff_iff]
  unfold visB
  simp only [Bool.and_eq_true, decide_eq_true_eq, Bool.not_eq_true', five_iff hx]
  constructor
  · rintro ⟨k, ⟨d, a, b⟩, r⟩
    exact ⟨k, by omega, d, hasPut_iff.2 ⟨x, hx, gpE_self (by omega), by omega⟩, a, b, r⟩
  · rintro ⟨k, _, d, _, a, b, r⟩
    exact ⟨k, ⟨d, a, b⟩, r⟩
theorem five_put {m : List En} {x : En} (hx : x ∈ m) (h : (sv fs clock m x).fate = 5) : (tld m x).kind = 1 ↔ x.kind = 1 := by
  obtain ⟨h3, hd, hp, _⟩ := (five_iff hx).1 h
  rw [tld_hk h3 hd hp]
  have := (hk_eq x).2.2.2.2.2.2
  omega
theorem vis_five (m : List En) : m.filter (visB fs clock m) = (fiveL fs clock m).filter (fun e => decide (e.kind = 1)) := by
  unfold fiveL
  rw [List.filter_map, List.filter_filter]
  have e1 : m.filter (visB fs clock m) = m.filter fun x => ((fun e => decide (e.kind = 1)) ∘ tld m) x && decide ((sv fs clock m x).fate = 5) := by
    apply List.filter_congr
    intro x hx
    rw [visB_five hx]
    cases h : decide ((sv fs clock m x).fate = 5) with
    | false => simp
    | true =>
      have := five_put hx (of_decide_eq_true h)
      simp only [Bool.and_true, Function.comp]
      rw [Bool.eq_iff_iff, decide_eq_true_eq, decide_eq_true_eq]
      exact this.symm
  rw [e1]
  have e2 : ∀ x ∈ m.filter (fun x => ((fun e => decide (e.kind = 1)) ∘ tld m) x && decide ((sv fs clock m x).fate = 5)), tld m x = x := fun x hx => by
    obtain ⟨xm, hx⟩ := List.mem_filter.1 hx
    simp only [Bool.and_eq_true, decide_eq_true_eq, Function.comp] at hx
    obtain ⟨h3, hd, hp, _⟩ := (five_iff xm).1 hx.2
    have k := (five_put xm hx.2).1 hx.1
    rw [tld_hk h3 hd hp]
    unfold hk
    rw [if_neg (by omega)]
  conv => lhs; rw [← List.map_id (m.filter _)]
  exact List.map_congr_left (fun x hx => (e2 x hx).symm)
theorem mates_same {l e : En} (h : mates l e = true) (y : En) : mates y l = mates y e := by
  have a := mates_iff.1 h
  simp only [mates, a.1, a.2.1, a.2.2]
theorem five_dist {m : List En} (hs : m.Pairwise Ah) : ∀ x ∈ fiveL fs clock m, ∀ y ∈ fiveL fs clock m, mates x y = true → x.ts = y.ts → x = y := fun x hx y hy M t => by
  obtain ⟨a, am, ha, rfl⟩ := five_mem.1 hx
  obtain ⟨b, bm, hb, rfl⟩ := five_mem.1 hy
  obtain ⟨a1, a2, a3, a4, _⟩ := hk_eq a
  obtain ⟨b1, b2, b3, b4, _⟩ := hk_eq b
  have M := mates_iff.1 M
  have := one_decides hs am bm (gpE_iff.2 ⟨ha.1, hb.1, by rw [← a1, M.1, b1], by rw [← a2, M.2.1, b2], by rw [← a3, M.2.2, b3], by rw [← a4, t, b4]⟩) ha.2.1 hb.2.1
  rw [this]
theorem five_three {m : List En} : ∀ x ∈ fiveL fs clock m, x.kind ≤ 3 := fun x hx => by
  obtain ⟨a, am, ha, rfl⟩ := five_mem.1 hx
  have := (hk_eq a).2.2.2.2.2.2
  have := ha.1
  omega
def topR (fs : List (Int × Int)) (clock : Int) (m p : List En) : Int := p.foldl (fun t x => if (x.kind ≤ 3 ∧ hasPut m x = true ∧ maskOf m x < x.ts ∧ expS fs clock x = false) ∧ t < x.ts then x.ts else t) 0
theorem topR_snoc (m p : List En) (x : En) : topR fs clock m (p ++ [x]) = if (x.kind ≤ 3 ∧ hasPut m x = true ∧ maskOf m x < x.ts ∧ expS fs clock x = false) ∧ topR fs clock m p < x.ts then x.ts else topR fs clock m p := by
  unfold topR
  rw [List.foldl_append]
  rfl
theorem topR_spec (m : List En) : ∀ p : List En, (0 ≤ topR fs clock m p) ∧ (∀ x ∈ p, (x.kind ≤ 3 ∧ hasPut m x = true ∧ maskOf m x < x.ts ∧ expS fs clock x = false) → x.ts ≤ topR fs clock m p) ∧ (topR fs clock m p = 0 ∨ ∃ x ∈ p, (x.kind ≤ 3 ∧ hasPut m x = true ∧ maskOf m x < x.ts ∧ expS fs clock x = false) ∧ x.ts = topR fs clock m p) := by
  have key : ∀ (p : List En) (a : Int), 0 ≤ a → (a ≤ p.foldl (fun t x => if (x.kind ≤ 3 ∧ hasPut m x = true ∧ maskOf m x < x.ts ∧ expS fs clock x = false) ∧ t < x.ts then x.ts else t) a) ∧ (∀ x ∈ p, (x.kind ≤ 3 ∧ hasPut m x = true ∧ maskOf m x < x.ts ∧ expS fs clock x = false) → x.ts ≤ p.foldl (fun t x => if (x.kind ≤ 3 ∧ hasPut m x = true ∧ maskOf m x < x.ts ∧ expS fs clock x = false) ∧ t < x.ts then x.ts else t) a) ∧ (p.foldl (fun t x => if (x.kind ≤ 3 ∧ hasPut m x = true ∧ maskOf m x < x.ts ∧ expS fs clock x = false) ∧ t < x.ts then x.ts else t) a = a ∨ ∃ x ∈ p, (x.kind ≤ 3 ∧ hasPut m x = true ∧ maskOf m x < x.ts ∧ expS fs clock x = false) ∧ x.ts = p.foldl (fun t x => if (x.kind ≤ 3 ∧ hasPut m x = true ∧ maskOf m x < x.ts ∧ expS fs clock x = false) ∧ t < x.ts then x.ts else t) a) := by
    intro p
    induction p with
    | nil => intro a ha; exact ⟨Int.le_refl _, (fun x hx => by cases hx), .inl rfl⟩
    | cons y p ih =>
      intro a ha
      rw [List.foldl_cons]
      by_cases z : (y.kind ≤ 3 ∧ hasPut m y = true ∧ maskOf m y < y.ts ∧ expS fs clock y = false) ∧ a < y.ts
      · rw [if_pos z]
        obtain ⟨i1, i2, i3⟩ := ih y.ts (by omega)
        refine ⟨by omega, fun x hx hc => ?_, ?_⟩
        · rcases List.mem_cons.1 hx with rfl | hx
          · exact i1
          · exact i2 x hx hc
        · rcases i3 with q | ⟨x, hx, hc, q⟩
          · exact .inr ⟨y, List.mem_cons_self, z.1, q.symm⟩
          · exact .inr ⟨x, List.mem_cons_of_mem _ hx, hc, q⟩
      · rw [if_neg z]
        obtain ⟨i1, i2, i3⟩ := ih a ha
        refine ⟨i1, fun x hx hc => ?_, ?_⟩
        · rcases List.mem_cons.1 hx with rfl | hx
          · have : ¬ a < x.ts := fun q => z ⟨hc, q⟩
            omega
          · exact i2 x hx hc
        · rcases i3 with q | ⟨x, hx, hc, q⟩
          · exact .inl q
          · exact .inr ⟨x, List.mem_cons_of_mem _ hx, hc, q⟩
  intro p
  exact key p 0 (Int.le_refl _)
theorem counts_verd {m : List En} (hs : m.Pairwise Ah) (hv : ∀ e ∈ m, Va e) {x : En} (hx : x ∈ m) (hc : counts fs clock m x = true) : x.ts ≤ topS (verdictsS fs clock m) := by
  have c := (counts_put hx).1 hc
  have e := sv_ver (fs := fs) (clock := clock) c.1 c.2.1 c.2.2.2.1 c.2.2.2.2
  rw [if_neg ((kd_put hx c.1).2 c.2.2.1)] at e
  have hm : sv fs clock m x ∈ (verdictsS fs clock m).filter kept := by
    rw [verdicts_spec hs hv]
    refine List.mem_filter.2 ⟨List.mem_map_of_mem hx, ?_⟩
    rw [e]
    unfold kept
    simp only [decide_eq_true_eq]
    split <;> decide
  have := topS_le _ _ (List.mem_filter.1 hm).1 (by rw [e]; simp only; unfold above; omega)
  rw [e] at this
  exact this
theorem top_ref {m : List En} (hs : m.Pairwise Ah) (hv : ∀ e ∈ m, Va e) : topS (verdictsS fs clock m) = topR fs clock m m := by
  obtain ⟨r0, r1, r2⟩ := topR_spec (fs := fs) (clock := clock) m m
  refine Int.le_antisymm ?_ ?_
  · rcases topS_att (verdictsS fs clock m) with e | ⟨v, hv1, rk, t1⟩
    · omega
    · have : v ∈ (verdictsS fs clock m).filter kept := List.mem_filter.2 ⟨hv1, by unfold kept; simpa using verd_rank m v hv1 rk⟩
      rw [verdicts_spec hs hv] at this
      obtain ⟨x, hx, rfl⟩ := List.mem_map.1 (List.mem_filter.1 this).1
      have c := (counts_put hx).1 (sv_rank hx rk)
      rw [sv_e, (tld_eq m x).2.2.2.1] at t1
      rw [← t1]
      exact r1 x hx ⟨c.1, c.2.2.1, c.2.2.2.1, c.2.2.2.2⟩
  · rcases r2 with e | ⟨x, hx, hc, t1⟩
    · have : 0 ≤ topS (verdictsS fs clock m) := topS_nn _ fun v hv2 h => by
        have : v ∈ (verdictsS fs clock m).filter kept := List.mem_filter.2 ⟨hv2, by unfold kept; simpa using verd_rank m v hv2 h⟩
        rw [verdicts_spec hs hv] at this
        obtain ⟨y, hy, rfl⟩ := List.mem_map.1 (List.mem_filter.1 this).1
        rw [sv_e, (tld_eq m y).2.2.2.1]
        have := (hv y hy).ts
        omega
      omega
    · obtain ⟨z, hz, g, d⟩ := decider hs hx hc.1
      obtain ⟨g1, g2, g3, g4, g5, g6⟩ := gpE_iff.1 g
      have M := mates_of g
      have := counts_verd (fs := fs) (clock := clock) hs hv hz ((counts_put hz).2 ⟨g1, d, by rw [hasPut_gp g]; exact hc.2.1, by rw [mask_mates M g1 hc.1]; omega, by rw [exp_mates g4 g6]; exact hc.2.2.2⟩)
      omega
def fateR (fs : List (Int × Int)) (clock : Int) (major : Bool) (low : Int) (m : List En) (e : En) : Option En :=
  if 4 ≤ e.kind then (if shadow m e || (major && decide (e.ts ≤ low)) then none else some e)
  else if decidesS m e = false then none
  else if e.ts ≤ maskOf m e then none
  else if expS fs clock e then none
  else if hasPut m e = false then (if major then none else some e)
  else if (famAt fs e.fam).1 < above fs clock m e + 1 then none
  else some (hk e)
theorem squash_ref {m : List En} {major : Bool} {low : Int} : leftL fs clock m major low = m.filterMap (fateR fs clock major low m) := by
  unfold leftL
  have key : ∀ p : List En, (∀ x ∈ p, x ∈ m) → (p.filter fun x => staysS major low (sv fs clock m x)).map (tld m) = p.filterMap (fateR fs clock major low m) := by
    intro p
    induction p with
    | nil => intro _; rfl
    | cons x p ih =>
      intro hp
      have ih := ih (fun y hy => hp y (List.mem_cons_of_mem _ hy))
      have hx := hp x List.mem_cons_self
      have one : (staysS major low (sv fs clock m x) = true → fateR fs clock major low m x = some (tld m x)) ∧ (staysS major low (sv fs clock m x) = false → fateR fs clock major low m x = none) := by
        unfold fateR
        by_cases k : 4 ≤ x.kind
        · rw [if_pos k, sv_mark k]
          have et : tld m x = x := by unfold tld; rw [if_pos k]
          rw [et]
          cases sh : shadow m x with
          | true => simp [staysS]
          | false =>
            cases major with
            | false => simp [staysS]
            | true =>
              by_cases z : x.ts ≤ low
              · have : ¬ low < x.ts := by omega
                simp [staysS, z, this]
              · have : low < x.ts := by omega
                simp [staysS, z, this]
        · rw [if_neg k]
          have k3 : x.kind ≤ 3 := by omega
          cases hd : decidesS m x with
          | false =>
            have : sv fs clock m x = ⟨x, 1, 0⟩ := sv_not k3 hd
            rw [this]
            simp [staysS]
          | true =>
            rw [if_neg (by simp)]
            by_cases hm : x.ts ≤ maskOf m x
            · rw [if_pos hm]
              have : staysS major low (sv fs clock m x) = false := by
                cases z : staysS major low (sv fs clock m x) with
                | false => rfl
                | true => have := (stays_ver k3 z).2.1; omega
              simp [this]
            · rw [if_neg hm]
              cases he : expS fs clock x with
              | true =>
                have : staysS major low (sv fs clock m x) = false := by
                  cases z : staysS major low (sv fs clock m x) with
                  | false => rfl
                  | true => have := (stays_ver k3 z).2.2.1; rw [he] at this; cases this
                simp [this]
              | false =>
                rw [if_neg (by simp)]
                rw [sv_ver k3 hd (by omega) he]
                cases hpt : hasPut m x with
                | false =>
                  have kk : kd m x = 3 := by
                    by_cases z : kd m x = 3
                    · exact z
                    · rw [(kd_put hx k3).1 z] at hpt; cases hpt
                  have et : tld m x = x := by
                    rw [tld_ver k3 hd]
                    unfold kd at kk ⊢
                    simp only [hpt] at kk ⊢
                    simp
                  rw [if_pos rfl, if_pos kk, et]
                  cases major <;> simp [staysS]
                | true =>
                  rw [if_neg ((kd_put hx k3).2 hpt), if_neg (show ¬ (true = false) by simp), tld_hk k3 hd hpt]
                  by_cases z : (famAt fs x.fam).1 < above fs clock m x + 1
                  · simp [staysS, z]
                  · simp [staysS, z]
      cases hst : staysS major low (sv fs clock m x) with
      | true => rw [List.filter_cons_of_pos (by simpa using hst), List.map_cons, ih, List.filterMap_cons, one.1 hst]
      | false => rw [List.filter_cons_of_neg (by simp [hst]), ih, List.filterMap_cons, one.2 hst]
  exact key m (fun x hx => hx)
end
end Go.Proofs.YtganmnckdmkcbaaGreat

namespace Go.Proofs.YtganmnckdmkcbaaGreat
open Go.RowKit Go.Maps
set_option linter.unusedVariables false

set_option maxRecDepth 100000 in
set_option maxHeartbeats 4000000 in
theorem refMask_any {w : World} {a : Option Addr} {cap : Nat} {l : List EntD} {e : EntD} (hl : RdL3 w a cap l) (he : EntD.Ok w e) (h3 : e.kind ≤ 3) (hn : l.length ≤ 1353245080300) :
    Calls Tryz.prog 90 #[.slice a l.length cap, .agg e.cells] w fun r w' => r = .returned (.int .i64 (maskOf (l.map EntD.dat) e.dat)) ∧ Below w.heap.size w w' := by
  obtain ⟨W, hW, A, hb, -⟩ := box1 w e
  obtain ⟨N, hN⟩ : ∃ N, N = l.length := ⟨_, rfl⟩
  obtain ⟨R, hR⟩ : ∃ R, R = maskOf (l.map EntD.dat) e.dat := ⟨_, rfl⟩
  have hc := hl.cap
  rw [← hN] at hn hc ⊢
  rw [← hR]
  have HW := Lib.hid hW
  have HA := Lib.hid A
  have HN := Lib.hid hN
  have HR := Lib.hid hR
  have HB := Lib.hid hb
  have H0 := Lib.hid (fun (Z : World) (b : Below W.heap.size W Z) => hl.later (A.trans (b.mono A.size)))
  have H1 := Lib.hid (fun (Z : World) (b : Below W.heap.size W Z) => he.later (A.trans (b.mono A.size)))
  have H3 := Lib.hid h3
  unfold EntD.cells at HW ⊢
  clear hW A hb hN hR hl he h3
  go_enter Tryz.func90, Tryz.ntmps90
  go_upto_region 1 with fail
  rw [← HW.out]
  clear HW
  go_wp2
  go_loopw [5, 6, 7, 8] (fun m i _ _ wr => ∃ t : Nat, t ≤ N ∧ i = .int .i64 (t : Int) ∧ m = .int .i64 (maskOf ((l.take t).map EntD.dat) e.dat) ∧ Hid (Below W.heap.size W wr)) (fun _ i _ _ _ => N - (intOf i).toNat)
  case atStart => exact ⟨0, Nat.zero_le _, rfl, by simp [maskOf], Below.refl _ _⟩
  case round =>
    obtain ⟨t, ht, rfl, rfl, HBw⟩ := hrel
    have t0 : (0 : Int) ≤ (t : Int) := by omega
    obtain ⟨M, hM⟩ : ∃ M, M = maskOf ((l.take t).map EntD.dat) e.dat := ⟨_, rfl⟩
    rw [← hM]
    have HM := Lib.hid hM
    clear hM
    by_cases hlt : t < N
    · have hlt2 : (t : Int) < (N : Int) := by omega
      obtain ⟨x, hx⟩ : ∃ x, l[t]? = some x := ⟨l[t]'(by rw [← HN.out]; exact hlt), List.getElem?_eq_getElem _⟩
      have hrd := H0.out _ HBw.out
      have hok := hrd.ok x (List.mem_of_getElem? hx)
      rcases hrd.at_ with h0 | ⟨b, off, rfl, hc⟩
      · rw [h0] at hx; simp at hx
      have d0 := hc t x hx 0 _ rfl
      have d1 := hc t x hx 1 _ rfl
      have d2 := hc t x hx 2 _ rfl
      have d3 := hc t x hx 3 _ rfl
      have d4 := hc t x hx 4 _ rfl
      have d5 := hc t x hx 5 _ rfl
      have d6 := hc t x hx 6 _ rfl
      simp only [Nat.add_zero] at d0
      obtain ⟨_, a1, n1, e1, -⟩ := id hok.1
      obtain ⟨_, a2, n2, e2, -⟩ := id hok.2.1
      obtain ⟨_, a3, n3, e3, -⟩ := id hok.2.2
      obtain ⟨X, hX, AX, hbx, -⟩ := box1 wr x
      have HXb := Lib.hid (And.intro AX (And.intro hbx (And.intro hok HBw.out)))
      unfold EntD.cells at hX
      rw [e1, e2, e3] at hX
      rw [e1] at d0
      rw [e2] at d2
      rw [e3] at d6
      have HX := Lib.hid hX
      have HXx := Lib.hid hx
      have HS : Hid (maskOf ((l.take (t + 1)).map EntD.dat) e.dat = if cover x.dat e.dat then max M x.ts else M) := by
        unfold Hid
        rw [List.take_add_one, hx, List.map_append, HM.out]
        exact maskOf_snoc _ x.dat e.dat
      clear hrd hok hc hx hX AX hbx e1 e2 e3
      go_upto_region 6 with fail
      rw [← HX.out]
      clear HX d0 d1 d2 d3 d4 d5 d6
      obtain ⟨AX, hbx, hok, hbw⟩ := HXb.out
      have hBX : Below W.heap.size W X := hbw.trans (AX.mono hbw.size)
      have KS : Hid (∀ Z, Below X.heap.size X Z → EBox Z wr.heap.size x ∧ EBox Z w.heap.size e ∧ EntD.Ok Z x ∧ EntD.Ok Z e) := fun Z k => ⟨hbx Z k, HB.out Z (hBX.trans (k.mono hBX.size)), (hok.later AX).later k, H1.out Z (hBX.trans (k.mono hBX.size))⟩
      have HBX := Lib.hid hBX
      clear AX hbx hok hbw hBX
      obtain ⟨cv, hcv⟩ : ∃ cv, cv = cover x.dat e.dat := ⟨_, rfl⟩
      have HCv : Hid (cv = (if x.kind = 5 then decide (x.fam = e.fam) && decide (x.row = e.row) else if x.kind = 4 then mates x.dat e.dat else false)) := by
        unfold Hid
        rw [hcv, Bool.eq_iff_iff, cover_iff]
        have h3 := H3.out
        by_cases k5 : x.kind = 5
        · rw [if_pos k5]
          simp only [Bool.and_eq_true, decide_eq_true_eq, EntD.dat]
          exact ⟨fun h => ⟨h.2.1, h.1⟩, fun h => ⟨h.2, h.1, .inl k5⟩⟩
        · rw [if_neg k5]
          by_cases k4 : x.kind = 4
          · rw [if_pos k4, mates_iff]
            simp only [EntD.dat]
            exact ⟨fun h => ⟨h.1, h.2.1, (h.2.2.resolve_left k5).2.2⟩, fun h => ⟨h.1, h.2.1, .inr ⟨k4, by omega, h.2.2⟩⟩⟩
          · rw [if_neg k4]
            simp only [EntD.dat]
            exact ⟨fun h => (h.2.2.elim (fun z => absurd z k5) (fun z => absurd z.1 k4)), fun h => by cases h⟩
      have HCc := Lib.hid hcv
      clear hcv
      go_cut [8] from 9 to 54 (fun s wx => s = .bool cv ∧ Hid (Below X.heap.size X wx))
      case first =>
        obtain ⟨b1, b2, o1, o2⟩ := KS.out _ (Below.refl _ _)
        have x0 := b1.vr
        have x1 := b1.fam
        have x2 := b1.vq
        have x3 := b1.ts
        have x4 := b1.seq
        have x5 := b1.kind
        have x6 := b1.vv
        have y0 := b2.vr
        have y1 := b2.fam
        have y2 := b2.vq
        have y3 := b2.ts
        have y4 := b2.seq
        have y5 := b2.kind
        have y6 := b2.vv
        have HAr : Hid (Calls Tryz.prog 78 #[x.vr, e.vr] X fun r w' => r = .returned (.bool (decide (x.row = e.row))) ∧ w' = X) := alike_any o1.1 o2.1
        have HMt : Hid (Calls Tryz.prog 55 #[.agg x.cells, .agg e.cells] X _) := mates_any o1 o2
        unfold EntD.cells at HMt
        clear b1 b2 o1 o2
        by_cases k5 : x.kind = 5
        · have q5 : (x.kind == 5) = true := by simpa using k5
          have q4 : (x.kind == 4) = false := by simp [k5]
          by_cases cf : x.fam = e.fam
          · have qf : (x.fam == e.fam) = true := by simpa using cf
            by_cases cr : x.row = e.row
            · rw [decide_eq_true cr] at HAr
              have q : Hid (cv = true) := by unfold Hid; rw [HCv.out]; simp [k5, cf, cr]
              clear k5 cf cr HCv
              go_wp2_with (go_at_call 78; refine Calls.mono HAr.out ?_; rintro r w' ⟨rfl, rfl⟩)
              go_meet
              case rel => exact ⟨by rw [q.out], Below.refl _ _⟩
            · rw [decide_eq_false cr] at HAr
              have q : Hid (cv = false) := by unfold Hid; rw [HCv.out]; simp [k5, cr]
              clear k5 cf cr HCv
              go_wp2_with (go_at_call 78; refine Calls.mono HAr.out ?_; rintro r w' ⟨rfl, rfl⟩)
              go_meet
              case rel => exact ⟨by rw [q.out], Below.refl _ _⟩
          · have qf : (x.fam == e.fam) = false := by simpa using cf
            have q : Hid (cv = false) := by unfold Hid; rw [HCv.out]; simp [k5, cf]
            clear k5 cf HCv
            go_wp2_with fail
            go_meet
            case rel => exact ⟨by rw [q.out], Below.refl _ _⟩
        · have q5 : (x.kind == 5) = false := by simpa using k5
          by_cases k4 : x.kind = 4
          · have q4 : (x.kind == 4) = true := by simpa using k4
            have q : Hid (cv = mates x.dat e.dat) := by unfold Hid; rw [HCv.out]; simp [k4]
            clear k5 k4 HCv
            go_wp2_with fail
            refine Calls.mono HMt.out ?_
            rintro r w' ⟨rfl, b9⟩
            have B9 := Lib.hid b9
            obtain ⟨mm, hmm⟩ : ∃ mm, mm = mates x.dat e.dat := ⟨_, rfl⟩
            rw [← hmm]
            have q' : Hid (cv = mm) := by unfold Hid; rw [q.out, hmm]
            clear b9 hmm q
            go_wp2
            go_meet
            case rel => exact ⟨by rw [q'.out], B9.out⟩
          · have q4 : (x.kind == 4) = false := by simpa using k4
            have q : Hid (cv = false) := by unfold Hid; rw [HCv.out]; simp [k5, k4]
            clear k5 k4 HCv
            go_wp2_with fail
            go_meet
            case rel => exact ⟨by rw [q.out], Below.refl _ _⟩
      case rest =>
        obtain ⟨rfl, HBc⟩ := hcut
        obtain ⟨b1, b2, o1, o2⟩ := KS.out _ HBc.out
        have x3 := b1.ts
        have HBr := Lib.hid (HBX.out.trans (HBc.out.mono HBX.out.size))
        clear b1 b2 o1 o2
        rw [← HCc.out] at HS
        cases cv with
        | true =>
          by_cases cm : M < x.ts
          · have q : Hid (maskOf ((l.take (t + 1)).map EntD.dat) e.dat = x.ts) := by unfold Hid; rw [HS.out]; simp; omega
            go_wp2
            go_roundw
            case rel => exact ⟨t + 1, by omega, by go_num, by rw [q.out], HBr.out⟩
            case measure => simp only [intOf]; omega
          · have q : Hid (maskOf ((l.take (t + 1)).map EntD.dat) e.dat = M) := by unfold Hid; rw [HS.out]; simp; omega
            go_wp2
            go_roundw
            case rel => exact ⟨t + 1, by omega, by go_num, by rw [q.out], HBr.out⟩
            case measure => simp only [intOf]; omega
        | false =>
          have q : Hid (maskOf ((l.take (t + 1)).map EntD.dat) e.dat = M) := by unfold Hid; rw [HS.out]; simp
          go_wp2
          go_roundw
          case rel => exact ⟨t + 1, by omega, by go_num, by rw [q.out], HBr.out⟩
          case measure => simp only [intOf]; omega
    · have hge : ¬ (t : Int) < (N : Int) := by omega
      have q : Hid (M = R) := by unfold Hid; rw [HM.out, HR.out, List.take_of_length_le (by rw [← HN.out]; omega)]
      go_wp2
      go_ret
      exact ⟨by rw [q.out]; rfl, HA.out.trans (HBw.out.mono HA.out.size)⟩
end Go.Proofs.YtganmnckdmkcbaaGreat

namespace Go.Proofs.YtganmnckdmkcbaaGreat
open Go.RowKit Go.Maps
set_option linter.unusedVariables false

theorem box_se (w : World) (fa : Option Addr) (K fc : Nat) (e : EntD) : ∃ W, W = (w.alloc (.cells #[.slice fa K fc] 27)).alloc (.cells e.cells 84) ∧ Below w.heap.size w W ∧ (∀ Z, Below W.heap.size W Z → Z.cell? ⟨w.heap.size, 0, none⟩ = some (.slice fa K fc) ∧ EBox Z (w.heap.size + 1) e) := by
  obtain ⟨X0, hX0, A1, hc⟩ := sch_box w fa K fc
  obtain ⟨W, hW, A2, hb, -⟩ := box1 X0 e
  have sz : X0.heap.size = w.heap.size + 1 := by rw [hX0]; simp
  refine ⟨W, by rw [hW, hX0], A1.trans (A2.mono A1.size), fun Z k => ⟨hc Z (A2.trans (k.mono A2.size)), ?_⟩⟩
  have := hb Z k
  rw [sz] at this
  exact this
theorem fam_cell {w : World} {fa : Option Addr} {fc : Nat} {fs : List FamD} (hr : RdF w (.slice fa fs.length fc) fs) {k : Nat} (hk : k < fs.length) : ∃ b off fd, fa = some ⟨b, off, none⟩ ∧ fs[k]? = some fd ∧ ∀ Z, Below w.heap.size w Z → Z.cell? ⟨b, off + k * 3 + 1, none⟩ = some (.int .i64 fd.mx) ∧ Z.cell? ⟨b, off + k * 3 + 2, none⟩ = some (.int .i64 fd.tl) := by
  obtain ⟨a', c', e, _, _, _, h5⟩ := id hr
  rcases h5 with h5 | ⟨b, off, q, _⟩
  · rw [h5] at hk; simp at hk
  · simp only [Value.slice.injEq] at e
    obtain ⟨fd, hfd⟩ : ∃ fd, fs[k]? = some fd := ⟨fs[k], List.getElem?_eq_getElem _⟩
    refine ⟨b, off, fd, e.1.trans q, hfd, fun Z k' => ?_⟩
    obtain ⟨a2, c2, e2, _, _, _, h6⟩ := hr.later k'
    rcases h6 with h6 | ⟨b2, off2, q2, hc2⟩
    · rw [h6] at hk; simp at hk
    · simp only [Value.slice.injEq] at e2
      have := (e.1.trans q).symm.trans (e2.1.trans q2)
      cases this
      exact ⟨(hc2 k fd hfd).2.1, (hc2 k fd hfd).2.2⟩
theorem fam_mt {fs : List FamD} {k : Nat} {fd : FamD} (h : fs[k]? = some fd) : famAt (mt fs) (k : Int) = (fd.mx, fd.tl) := by
  unfold famAt mt
  rw [List.getD_eq_getElem?_getD, List.getElem?_map]
  simp [h]
structure UndE (fs : List FamD) (e : EntD) : Prop where
  f0 : 0 ≤ e.fam
  fK : e.fam < fs.length
  t1 : 1 ≤ e.ts
  t2 : e.ts ≤ 1099511627776
set_option maxRecDepth 100000 in
set_option maxHeartbeats 4000000 in
theorem refExpired_any {w : World} {fa : Option Addr} {fc : Nat} {fs : List FamD} {e : EntD} (clock : Int) (hr : RdF w (.slice fa fs.length fc) fs) (hu : UndE fs e) (hf : ∀ f ∈ fs, 0 ≤ f.tl ∧ f.tl ≤ 1099511627776) :
    Calls Tryz.prog 91 #[.agg #[.slice fa fs.length fc], .int .i64 clock, .agg e.cells] w fun r w' => r = .returned (.bool (expS (mt fs) clock e.dat)) ∧ Below w.heap.size w w' := by
  obtain ⟨W, hW, A, hb⟩ := box_se w fa fs.length fc e
  obtain ⟨kf, hkf⟩ : ∃ kf : Nat, e.fam = (kf : Int) := ⟨e.fam.toNat, by have := hu.f0; omega⟩
  have hkl : kf < fs.length := by have := hu.fK; omega
  obtain ⟨b, off, fd, rfl, hfd, hc⟩ := fam_cell hr hkl
  obtain ⟨E, hE⟩ : ∃ E, E = expS (mt fs) clock e.dat := ⟨_, rfl⟩
  have hEv : E = decide (0 < fd.tl ∧ e.ts + fd.tl ≤ clock) := by
    rw [hE]
    unfold expS
    show decide (0 < (famAt (mt fs) e.fam).2 ∧ e.ts + (famAt (mt fs) e.fam).2 ≤ clock) = _
    rw [hkf, fam_mt hfd]
  have hb2 := hf fd (List.mem_of_getElem? hfd)
  obtain ⟨c1, e1⟩ := hb W (Below.refl _ _)
  have y1 := e1.fam
  rw [hkf] at y1
  have y3 := e1.ts
  have z2 := (hc W A).2
  have t1 := hu.t1
  have t2 := hu.t2
  obtain ⟨K, hK⟩ : ∃ K, K = fs.length := ⟨_, rfl⟩
  rw [← hK] at c1 hW hkl
  rw [← hE, ← hK]
  have HW := Lib.hid hW
  have HA := Lib.hid A
  have HE := Lib.hid hEv
  have k0 : (0 : Int) ≤ (kf : Int) := by omega
  have kK : (kf : Int) < (K : Int) := by omega
  have wr0 : IntKind.i64.wrap (e.ts + fd.tl) = e.ts + fd.tl := by simp [IntKind.wrap, IntKind.bits, IntKind.signed]; omega
  unfold EntD.cells at HW ⊢
  clear hW A hb hkf hfd hc hE hEv hb2 e1 hu hf hr hK
  go_enter Tryz.func91, Tryz.ntmps91
  go_upto_region 1 with fail
  rw [← HW.out]
  clear HW
  by_cases c0 : 0 < fd.tl
  · have d0 : decide (0 < fd.tl) = true := decide_eq_true c0
    by_cases c2 : e.ts + fd.tl ≤ clock
    · have d2 : decide (e.ts + fd.tl ≤ clock) = true := decide_eq_true c2
      have q : Hid (E = true) := by unfold Hid; rw [HE.out]; simp [c0, c2]
      clear c2 HE
      go_wp2
      go_ret
      exact ⟨by rw [q.out]; rfl, HA.out⟩
    · have d2 : decide (e.ts + fd.tl ≤ clock) = false := decide_eq_false c2
      have q : Hid (E = false) := by unfold Hid; rw [HE.out]; simp [c2]
      clear c2 HE
      go_wp2
      go_ret
      exact ⟨by rw [q.out]; rfl, HA.out⟩
  · have d0 : decide (0 < fd.tl) = false := decide_eq_false c0
    have q : Hid (E = false) := by unfold Hid; rw [HE.out]; simp [c0]
    clear HE
    go_wp2
    go_ret
    exact ⟨by rw [q.out]; rfl, HA.out⟩
def inB (fs : List FamD) (clock : Int) (m : List En) (e : En) : Bool := decide (maskOf m e < e.ts) && !expS (mt fs) clock e
set_option maxRecDepth 100000 in
set_option maxHeartbeats 4000000 in
theorem refIn_any {w : World} {fa a : Option Addr} {fc cap : Nat} {fs : List FamD} {l : List EntD} {e : EntD} (clock : Int) (hr : RdF w (.slice fa fs.length fc) fs) (hu : UndE fs e) (hf : ∀ f ∈ fs, 0 ≤ f.tl ∧ f.tl ≤ 1099511627776) (hl : RdL3 w a cap l) (he : EntD.Ok w e) (h3 : e.kind ≤ 3) (hn : l.length ≤ 1353245080300) :
    Calls Tryz.prog 63 #[.agg #[.slice fa fs.length fc], .int .i64 clock, .slice a l.length cap, .agg e.cells] w fun r w' => r = .returned (.bool (inB fs clock (l.map EntD.dat) e.dat)) ∧ Below w.heap.size w w' := by
  obtain ⟨W, hW, A, hb⟩ := box_se w fa fs.length fc e
  have HMk := Lib.hid (refMask_any (hl.later A) (he.later A) h3 hn)
  have HEx := Lib.hid (fun (Z : World) (k : Below W.heap.size W Z) => refExpired_any clock (hr.later (A.trans (k.mono A.size))) hu hf)
  obtain ⟨E, hE⟩ : ∃ E, E = expS (mt fs) clock e.dat := ⟨_, rfl⟩
  obtain ⟨M, hM⟩ : ∃ M, M = maskOf (l.map EntD.dat) e.dat := ⟨_, rfl⟩
  obtain ⟨R, hR⟩ : ∃ R, R = inB fs clock (l.map EntD.dat) e.dat := ⟨_, rfl⟩
  have HR : Hid (R = (decide (M < e.ts) && !E)) := by unfold Hid; rw [hR, hM, hE]; rfl
  rw [← hM] at HMk
  rw [← hE] at HEx
  rw [← hR]
  obtain ⟨K, hK⟩ : ∃ K, K = fs.length := ⟨_, rfl⟩
  obtain ⟨N, hN⟩ : ∃ N, N = l.length := ⟨_, rfl⟩
  rw [← hK] at hb HEx hW
  rw [← hN] at HMk
  rw [← hK, ← hN]
  have HW := Lib.hid hW
  have HA := Lib.hid A
  have HB := Lib.hid hb
  obtain ⟨c1, e1⟩ := hb W (Below.refl _ _)
  have x := e1.cells7
  obtain ⟨x0, x1, x2, x3, x4, x5, x6⟩ := x
  unfold EntD.cells at HW HMk HEx ⊢
  clear hW A hb hE hM hR e1 hu hf hr hl he h3 hn hK hN
  go_enter Tryz.func63, Tryz.ntmps63
  go_upto_region 1 with fail
  rw [← HW.out]
  clear HW
  go_wp2_with fail
  refine Calls.mono HMk.out ?_
  rintro r w1 ⟨rfl, b1⟩
  have B1 := Lib.hid b1
  obtain ⟨c1', e1'⟩ := HB.out w1 b1
  clear b1 c1 x0 x1 x2 x3 x4 x5 x6 HMk
  obtain ⟨x0, x1, x2, x3, x4, x5, x6⟩ := e1'.cells7
  clear e1'
  go_wp2_with fail
  refine Calls.mono (HEx.out _ B1.out) ?_
  rintro r w2 ⟨rfl, b2⟩
  have B2 := Lib.hid (B1.out.trans (b2.mono B1.out.size))
  obtain ⟨c2', e2'⟩ := HB.out w2 B2.out
  clear b2 c1' x0 x1 x2 x3 x4 x5 x6 HEx
  obtain ⟨x0, x1, x2, x3, x4, x5, x6⟩ := e2'.cells7
  clear e2'
  by_cases cm : M < e.ts
  · have d0 : decide (M < e.ts) = true := decide_eq_true cm
    have q : Hid (R = !E) := by unfold Hid; rw [HR.out]; simp [cm]
    clear HR
    go_wp2
    go_ret
    exact ⟨by rw [q.out]; rfl, HA.out.trans (B2.out.mono HA.out.size)⟩
  · have d0 : decide (M < e.ts) = false := decide_eq_false cm
    have q : Hid (R = false) := by unfold Hid; rw [HR.out]; simp [cm]
    clear HR
    go_wp2
    go_ret
    exact ⟨by rw [q.out]; rfl, HA.out.trans (B2.out.mono HA.out.size)⟩
end Go.Proofs.YtganmnckdmkcbaaGreat
