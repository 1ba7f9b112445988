import Derived.Test.YtemdhpjoakldhaaJ28
import Derived.Test.YtemdhpjoakldhaaJ26
import Derived.Test.YtemdhpjoakldhaaJ27
namespace Go.Proofs.Ytemdhpjoakldhaa
open Go.RowKit
set_option linter.unusedVariables false

section
variable {fs : List (Int × Int)} {c d : Int}
/-- NOTHING COMES BACK. -/
theorem nothing_back {m M : List En} (hc : c ≤ d) (hs : m.Pairwise Ah) (hS : M.Pairwise Ah) (sub : ∀ e ∈ m, e ∈ M) {x : En} (hx : x ∈ m) (k : x.kind = 1) (h : (sv fs d M x).fate = 5) : (sv fs c m x).fate = 5 := by
  obtain ⟨h3, hd, hp, hm, he, ha⟩ := (five_iff (sub x hx)).1 h
  have hm' : maskOf m x < x.ts := by have := maskOf_sub (m := M) (r := m) (fun y hy _ => sub y hy) x; omega
  have he' := exp_early hc he
  refine (five_iff hx).2 ⟨h3, decides_sub sub hd, hasPut_iff.2 ⟨x, hx, gpE_self h3, by omega⟩, hm', he', ?_⟩
  have : above fs c m x ≤ above fs d M x := by
    rw [← ups_len, ← ups_len]
    refine Int.ofNat_le.2 (sub_len (desc_nodup (ups_desc (fs := fs) (clock := c) hs x)) fun t ht => ?_)
    have := (ups_mem hs h3 hm' he' t).1 ht
    exact (ups_mem hS h3 hm he t).2 ⟨this.1, this.2.mono sub (mates_iff.2 ⟨rfl, rfl, rfl⟩)⟩
  omega
/-- What counts is left, or the column is full above it. -/
theorem left_or_full {m : List En} {low : Int} {major : Bool} (hs : m.Pairwise Ah) (hM : ∀ i, 0 ≤ (famAt fs i).1) {x : En} (hx : x ∈ m) (x3 : x.kind ≤ 3) (xd : decidesS m x = true) (hp : hasPut m x = true) (xm : maskOf m x < x.ts) (xe : expS fs c x = false) : hk x ∈ leftL fs c m major low ∨ Full fs (leftL fs c m major low) x := by
  have kept5 : ∀ y ∈ m, counts fs c m y = true → above fs c m y + 1 ≤ (famAt fs y.fam).1 → hk y ∈ leftL fs c m major low := fun y hy hc ha => by
    have c := (counts_put hy).1 hc
    refine left_mem.2 ⟨y, hy, five_stays ((five_iff hy).2 ⟨c.1, c.2.1, c.2.2.1, c.2.2.2.1, c.2.2.2.2, ha⟩) major, tld_hk c.1 c.2.1 c.2.2.1⟩
  by_cases ha : above fs c m x + 1 ≤ (famAt fs x.fam).1
  · exact .inl (kept5 x hx ((counts_put hx).2 ⟨x3, xd, hp, xm, xe⟩) ha)
  · right
    refine full_of hs x3 xm xe (hM _) (by omega) _ fun y hy yc yM yt ya => ?_
    have f : y.fam = x.fam := (mates_iff.1 yM).2.1
    have h5 := kept5 y hy yc (by rw [f]; exact ya)
    have k3 := (counts_put hy).1 yc
    obtain ⟨b1, b2, b3, b4, b5, b6, b7⟩ := hk_eq y
    have yM' := mates_iff.1 yM
    exact ⟨hk y, h5, by omega, mates_iff.2 ⟨b1.trans yM'.1, b2.trans yM'.2.1, b3.trans yM'.2.2⟩, b4⟩
theorem hk_hk (x : En) : hk (hk x) = hk x := by
  unfold hk
  by_cases z : x.kind = 3 <;> simp [z]
/-- NOR IS A MAJOR ONE SEEN, if what comes behind is newer and above low. -/
theorem major_wk {m b M R : List En} {low : Int} (hc : c ≤ d) (hs : m.Pairwise Ah) (hv : ∀ e ∈ m, Va e) (hM : ∀ i, 0 ≤ (famAt fs i).1) (hm : ∀ e, e ∈ M ↔ e ∈ m ∨ e ∈ b) (hr : ∀ e, e ∈ R ↔ e ∈ leftL fs c m true low ∨ e ∈ b) (hb : ∀ y ∈ b, low < y.ts ∧ ∀ x ∈ m, x.seq < y.seq) : Wk5 fs d M R := by
  have iM : ∀ e ∈ m, e ∈ M := fun e he => (hm e).2 (.inl he)
  have lR : ∀ e ∈ leftL fs c m true low, e ∈ R := fun e he => (hr e).2 (.inl he)
  have bR : ∀ e ∈ b, e ∈ R := fun e he => (hr e).2 (.inr he)
  have bM : ∀ e ∈ b, e ∈ M := fun e he => (hm e).2 (.inr he)
  have lm : ∀ y ∈ leftL fs c m true low, y.kind ≤ 3 → ∃ x ∈ m, gpE x y = true ∧ x.seq = y.seq ∧ maskOf m x < x.ts ∧ (y.kind ≤ 2 → hasPut m x = true) := fun y hy y3 => by
    obtain ⟨x, hx, p, rfl⟩ := left_mem.1 hy
    obtain ⟨a1, a2, a3, a4, a5, a6, a7⟩ := tld_eq m x
    have x3 : x.kind ≤ 3 := by omega
    have st := stays_ver x3 p
    refine ⟨x, hx, gpE_iff.2 ⟨x3, y3, a1.symm, a2.symm, a3.symm, a4.symm⟩, a5.symm, st.2.1, fun k => ?_⟩
    rw [tld_ver x3 st.1] at k
    exact (kd_put hx x3).1 (by simp only at k; omega)
  have lmk : ∀ y ∈ R, 4 ≤ y.kind → y ∈ M := fun y hy y4 => by
    rcases (hr y).1 hy with q | q
    · obtain ⟨x, hx, p, rfl⟩ := left_mem.1 q
      obtain ⟨a1, a2, a3, a4, a5, a6, a7⟩ := tld_eq m x
      have : tld m x = x := by unfold tld; rw [if_pos (by omega)]
      rw [this]; exact iM x hx
    · exact bM y q
  have dR : ∀ x ∈ M, ∀ y : En, hk y = hk x → x.kind ≤ 3 → decidesS M x = true → decidesS R y = true := fun x hx y e x3 hd => by
    obtain ⟨a1, a2, a3, a4, a5, a6⟩ := hk_inj e
    refine decides_iff.2 fun z hz g => ?_
    obtain ⟨g1, g2, g3, g4, g5, g6⟩ := gpE_iff.1 g
    have gx : gpE z x = true := gpE_iff.2 ⟨g1, x3, g3.trans a1, g4.trans a2, g5.trans a3, g6.trans a4⟩
    rcases (hr z).1 hz with q | q
    · obtain ⟨u, hu, gu, sq, _⟩ := lm z q g1
      have := decides_iff.1 hd u (iM u hu) (gpE_trans gu gx)
      omega
    · have := decides_iff.1 hd z (bM z q) gx
      omega
  refine ⟨fun y hy y3 => ?_, maskOf_sub lmk, fun y hy y3 ym => ?_, fun x hx x3 xd xp xm xe => ?_⟩
  · rcases (hr y).1 hy with q | q
    · obtain ⟨x, hx, g, _, _, p⟩ := lm y q y3
      exact ⟨x, iM x hx, g, fun k => hasPut_sub iM (gpE_self (gpE_iff.1 g).1) (p k)⟩
    · exact ⟨y, bM y q, gpE_self y3, fun k => hasPut_iff.2 ⟨y, bM y q, gpE_self y3, by omega⟩⟩
  · by_cases hlt : maskOf M y < y.ts
    · exact hlt
    · exfalso
      rcases maskOf_att M y with h0 | ⟨z, hz, cz, tz⟩
      · have := maskOf_nn R y
        omega
      · rcases (hm z).1 hz with q | q
        · have h1 := maskOf_le q cz
          rcases (hr y).1 hy with p | p
          · obtain ⟨x, hx, g, _, xm, _⟩ := lm y p y3
            obtain ⟨g1, g2, g3, g4, g5, g6⟩ := gpE_iff.1 g
            rw [mask_mates (mates_of g) g1 y3] at xm
            omega
          · rcases top_mark hs hv y with h0 | ⟨w, hw, cw, tw, sw⟩
            · have := maskOf_nn R y
              omega
            · have := (hb y p).1
              have w4 : 4 ≤ w.kind := by rcases (cover_iff.1 cw).2.2 with k | ⟨k, _⟩ <;> omega
              have wL := (major_mem (fs := fs) (clock := c) (m := m) (low := low) (z := w)).2 (.inr ⟨hw, w4, sw, by omega⟩)
              have := maskOf_le (lR w wL) cw
              omega
        · have := maskOf_le (bR z q) cz
          omega
  · have mA : ∀ e : En, maskOf m e ≤ maskOf M e := maskOf_sub (fun y hy _ => iM y hy)
    rcases (hm x).1 hx with q | q
    · have hput : hasPut m x = true := by
        obtain ⟨z, hz, g, k⟩ := hasPut_iff.1 xp
        rcases (hm z).1 hz with p | p
        · exact hasPut_iff.2 ⟨z, p, g, k⟩
        · have := (hb z p).2 x q
          have := decides_iff.1 xd z hz g
          omega
      rcases left_or_full (c := c) (major := true) (low := low) hs hM q x3 (decides_sub iM xd) hput (by have := mA x; omega) (exp_early hc xe) with h | h
      · obtain ⟨b1, b2, b3, b4, b5, b6, b7⟩ := hk_eq x
        exact .inl ⟨hk x, lR _ h, hk_hk x, by omega, dR x hx _ (hk_hk x) x3 xd, hasPut_iff.2 ⟨hk x, lR _ h, gpE_self (by omega), by omega⟩⟩
      · exact .inr (h.mono lR (mates_iff.2 ⟨rfl, rfl, rfl⟩) (Int.le_refl _))
    · by_cases hf : Full fs R x
      · exact .inr hf
      · refine .inl ⟨x, bR x q, rfl, x3, dR x hx x rfl x3 xd, ?_⟩
        obtain ⟨z, hz, g, k⟩ := hasPut_iff.1 xp
        rcases (hm z).1 hz with p | p
        · obtain ⟨u, hu, gu, ud⟩ := decider hs p (gpE_iff.1 g).1
          have gx := gpE_trans gu g
          obtain ⟨u3, _, c1, c2, c3, c4⟩ := gpE_iff.1 gx
          have Mu := mates_of gx
          rcases left_or_full (c := c) (major := true) (low := low) hs hM hu u3 ud (hasPut_iff.2 ⟨z, p, gpE_symm gu, k⟩) (by have h9 := mA x; rw [mask_mates Mu u3 x3]; omega) (by rw [exp_mates c2 c4]; exact exp_early hc xe) with h | h
          · obtain ⟨b1, b2, b3, b4, b5, b6, b7⟩ := hk_eq u
            exact hasPut_iff.2 ⟨hk u, lR _ h, gpE_iff.2 ⟨by omega, x3, b1.trans c1, b2.trans c2, b3.trans c3, b4.trans c4⟩, by omega⟩
          · exact absurd (h.mono lR Mu (by omega)) hf
        · exact hasPut_iff.2 ⟨z, bR z p, g, k⟩
end
end Go.Proofs.Ytemdhpjoakldhaa

namespace Go.Proofs.Ytemdhpjoakldhaa
open Go.RowKit Go.Maps
set_option linter.unusedVariables false

theorem join_any {W : World} {a b : Option Addr} {c d : Nat} {la lb : List EntD} (h1 : RdL3 W a c la) (h2 : RdL3 W b d lb) (s1 : ∀ x ∈ la, Shrt x) (s2 : ∀ x ∈ lb, Shrt x) (hl : la.length + lb.length ≤ 1353245080300) :
    Calls Try.prog 13 #[.slice a la.length c, .slice b lb.length d] W fun r W' => Below W.heap.size W W' ∧ ∃ (zs : List EntD) (a' : Option Addr) (c' : Nat), r = .returned (.slice a' zs.length c') ∧ RdL3 W' a' c' zs ∧ zs.map EntD.dat = la.map EntD.dat ++ lb.map EntD.dat := by
  refine Calls.mono (join_own h1 h2 s1 s2 hl) ?_
  rintro r W' ⟨v, zs, rfl, k, e⟩
  obtain ⟨a', c', rfl, _, hrd⟩ := k.rw.rdl (fun x hx => by
    have : x.dat ∈ zs.map EntD.dat := List.mem_map_of_mem hx
    rw [e] at this
    rcases List.mem_append.1 this with q | q
    · exact h1.by _ q
    · exact h2.by _ q)
  exact ⟨k.below, zs, a', c', rfl, hrd, e⟩
theorem show_len (tm n : Int) : ∀ (vs : List Vd), (showS tm n vs).2.length ≤ vs.length := by
  have key : ∀ (vs : List Vd) (s : Int × List En), (vs.foldl (showStep tm n) s).2.length ≤ s.2.length + vs.length := by
    intro vs
    induction vs with
    | nil => intro s; exact Nat.le_refl _
    | cons v vs ih =>
      intro s
      rw [List.foldl_cons]
      refine Nat.le_trans (ih _) ?_
      have : (showStep tm n s v).2.length ≤ s.2.length + 1 := by
        unfold showStep
        generalize (if v.rank = 1 then (0 : Int) else s.1) = q
        split
        · simp
        · simp
      simp only [List.length_cons]
      omega
  intro vs
  have := key vs (0, [])
  rw [List.length_nil, Nat.zero_add] at this
  exact this
theorem verd_len {fs : List (Int × Int)} {clock : Int} (l : List En) : (verdictsS fs clock l).length ≤ l.length := by
  have h := (walk_len (fs := fs) (clock := clock) l).1
  unfold verdictsS
  rw [List.length_append, resolve_len]
  omega
/-- What is kept is kept under every family's Max. -/
theorem famAt_one {fs : List FamD} (h : SchemaOk fs) {i : Int} (h0 : 0 ≤ i) (hk : i < fs.length) : 1 ≤ (famAt (mt fs) i).1 := by
  unfold famAt mt
  rw [List.getD_eq_getElem?_getD, List.getElem?_map]
  cases hf : fs[i.toNat]? with
  | none =>
    have := List.getElem?_eq_none_iff.1 hf
    omega
  | some f => simpa using (h.2 i.toNat f hf).1.2.1.1
theorem IsOrd.max {fs : List FamD} {l m : List En} (h : IsOrd fs.length l m) (hS : SchemaOk fs) : ∀ e ∈ m, 1 ≤ (famAt (mt fs) e.fam).1 := fun e he => by
  have ck := check_zero.1 (h.ck e he)
  simp only [EntD.ofEn] at ck
  exact famAt_one hS (by have := ck.1.2.1; omega) (by have := ck.2; omega)
section
variable {W : World} {cap fc : Nat} {a fa : Option Addr} {fs : List FamD} {l : List EntD}
theorem read_both (hr : RdF W (.slice fa fs.length fc) fs) (hn : fa = none → fc = 0) (C : Nat) (hC : (C = 0 ↔ SchemaOk fs) ∧ (C = 0 ∨ C = 28)) (clock t n : Int) (h0 : RdL3 W a cap l) (hl : l.length ≤ 1353245080300) (hi : inOrderE (check3S fs.length) l = 0) {m : List En} (hm : IsOrd fs.length (l.map EntD.dat) m) :
    Calls Try.prog 23 #[.agg #[.slice fa fs.length fc], .int .i64 clock, .int .i64 t, .int .i64 n, .slice a l.length cap] W fun r W' => Below W.heap.size W W' ∧ ∃ (zs : List EntD) (a' : Option Addr) (c' : Nat), r = .returned (.tuple #[.slice a' zs.length c', .int .i64 (readerS C clock t n)]) ∧ RdL3 W' a' c' zs ∧ zs.map EntD.dat = (if readerS C clock t n = 0 then (showS t n (verdictsS (mt fs) clock m)).2 else []) ∧ zs.length ≤ l.length := by
  refine Calls.mono (read_any sort_ok hr hn C hC clock t n h0 hl) ?_
  rintro r W' ⟨h1, h2, h3⟩
  by_cases hz : readerS C clock t n = 0
  · have hE : readE C fs clock t n l = 0 := by unfold readE; rw [if_neg (by simpa using hz)]; exact hi
    obtain ⟨xs, ys, zs, v, O, k1, k2, k3, k4, k5, k6⟩ := h3 hE
    have ho := isOrd_of hi k1 k2 k3
    rw [ho.unique hm] at k6 ho
    have hc0 : C = 0 := by
      unfold readerS at hz
      by_cases b : boundsS C [clock, t] = 0
      · unfold boundsS at b
        by_cases c : C = 0
        · exact c
        · rw [if_pos c] at b; omega
      · rw [if_pos b] at hz; exact absurd hz b
    have hM : ∀ e ∈ (showS t n (verdictsS (mt fs) clock m)).2, ByE e := fun e he => by
      have key : ∀ (vs : List Vd) (s : Int × List En), e ∈ (vs.foldl (showStep t n) s).2 → e ∈ s.2 ∨ ∃ v ∈ vs, v.e = e := by
        intro vs
        induction vs with
        | nil => intro s h; exact .inl h
        | cons v vs ih =>
          intro s h
          rw [List.foldl_cons] at h
          rcases ih _ h with q | ⟨u, hu, q⟩
          · unfold showStep at q
            generalize (if v.rank = 1 then (0 : Int) else s.1) = q9 at q
            split at q
            · rcases List.mem_append.1 q with q | q
              · exact .inl q
              · rw [List.mem_singleton] at q
                exact .inr ⟨v, List.mem_cons_self, q.symm⟩
            · exact .inl q
          · exact .inr ⟨u, List.mem_cons_of_mem _ hu, q⟩
      rw [show_five (ho.max (hC.1.1 hc0)) ho.ah ho.va] at he
      rcases key _ _ he with q | ⟨v, hv, rfl⟩
      · cases q
      · obtain ⟨e', he', rfl⟩ := List.mem_map.1 hv
        obtain ⟨x, hx, rfl⟩ := List.mem_map.1 he'
        exact tld_by _ (h0.by x ((ho.mem x).1 (List.mem_filter.1 hx).1))
    obtain ⟨a', c', hv, _, hrd⟩ := k5.rdl (fun x hx => by
      have : x.dat ∈ zs.map EntD.dat := List.mem_map_of_mem hx
      rw [k6] at this
      exact hM _ this)
    refine ⟨h1, zs, a', c', by rw [k4, hv, hz], hrd, by rw [if_pos hz]; exact k6, ?_⟩
    have e := congrArg List.length k6
    rw [List.length_map] at e
    rw [e]
    refine Nat.le_trans (show_len _ _ _) (Nat.le_trans (verd_len _) ?_)
    have e2 := congrArg List.length ((isOrd_of hi k1 k2 k3).unique hm)
    rw [List.length_map] at e2
    rw [← e2, k2.length_eq]
    exact onceS_len k1
  · have hE : readE C fs clock t n l = readerS C clock t n := by unfold readE; rw [if_pos hz]
    refine ⟨h1, [], none, 0, by rw [h2 (by rw [hE]; exact hz), hE]; rfl, ⟨⟨Nat.le_refl _, Nat.zero_le _⟩, .inl rfl, fun x hx => by cases hx⟩, by rw [if_neg hz]; rfl, Nat.zero_le _⟩
theorem vis_both (hr : RdF W (.slice fa fs.length fc) fs) (hn : fa = none → fc = 0) (C : Nat) (hC : (C = 0 ↔ SchemaOk fs) ∧ (C = 0 ∨ C = 28)) (clock : Int) (h0 : RdL3 W a cap l) (hl : l.length ≤ 1353245080300) (hE : visE C fs clock l = 0) {m : List En} (hm : IsOrd fs.length (l.map EntD.dat) m) :
    Calls Try.prog 18 #[.agg #[.slice fa fs.length fc], .int .i64 clock, .slice a l.length cap] W fun r W' => Below W.heap.size W W' ∧ ∃ (zs : List EntD) (a' : Option Addr) (c' : Nat), r = .returned (.tuple #[.slice a' zs.length c', .int .i64 0]) ∧ RdL3 W' a' c' zs ∧ zs.map EntD.dat = (showS 1099511627776 16 (verdictsS (mt fs) clock m)).2 ∧ zs.length ≤ l.length := by
  refine Calls.mono (vis_good hr hn C hC clock h0 hl hE) ?_
  rintro r W' ⟨h1, zs, m', a', c', ho, rfl, hrd, e, ln⟩
  have em := ho.unique hm
  subst em
  refine ⟨h1, zs, a', c', rfl, hrd, ?_, ln⟩
  rw [e, show_spec (fun i => famAt_mt (hC.1.1 (vis_zero hE).1) i) ho.ah ho.va]
theorem top_both (hr : RdF W (.slice fa fs.length fc) fs) (hn : fa = none → fc = 0) (C : Nat) (hC : (C = 0 ↔ SchemaOk fs) ∧ (C = 0 ∨ C = 28)) (clock : Int) (h0 : RdL3 W a cap l) (hl : l.length ≤ 1353245080300) (hE : visE C fs clock l = 0) {m : List En} (hm : IsOrd fs.length (l.map EntD.dat) m) :
    Calls Try.prog 29 #[.agg #[.slice fa fs.length fc], .int .i64 clock, .slice a l.length cap] W fun r W' => Below W.heap.size W W' ∧ r = .returned (.tuple #[.int .i64 (topS (verdictsS (mt fs) clock m)), .int .i64 0]) := by
  have hT : topE C fs clock l = 0 := by
    have hz := vis_zero hE
    unfold visE readE at hE
    have hr0 : readerS C clock 1099511627776 16 = 0 := by
      by_cases y : readerS C clock 1099511627776 16 = 0
      · exact y
      · rw [if_pos y] at hE; exact absurd hE y
    have hb := (reader_ok hr0).1
    have : boundsS C [clock] = 0 := by
      unfold boundsS at hb ⊢
      rw [if_neg (by simpa using hz.1)] at hb ⊢
      by_cases z : [clock, 1099511627776].any badT = true
      · rw [if_pos z] at hb; cases hb
      · rw [if_neg]
        simp [badT] at z ⊢
        omega
    unfold topE
    rw [if_neg (by simpa using this)]
    exact hz.2
  refine Calls.mono (top_any sort_ok hr hn C hC clock h0 hl) ?_
  rintro r W' ⟨h1, h2, h3⟩
  obtain ⟨xs, ys, k1, k2, k3, k4⟩ := h3 hT
  have em := (isOrd_of (vis_zero hE).2 k1 k2 k3).unique hm
  exact ⟨h1, by rw [k4, em]⟩
end
end Go.Proofs.Ytemdhpjoakldhaa

namespace Go.Proofs.Ytemdhpjoakldhaa
open Go.RowKit Go.Maps
set_option linter.unusedVariables false

/-- A schema's box: what is read of it in every later world. -/
theorem sch_box (W : World) (fa : Option Addr) (K fc : Nat) : ∃ X0, X0 = W.alloc (.cells #[.slice fa K fc] 24) ∧ Below W.heap.size W X0 ∧ ∀ Z, Below X0.heap.size X0 Z → Z.cell? ⟨W.heap.size, 0, none⟩ = some (.slice fa K fc) := by
  refine ⟨_, rfl, (Below.refl _ _).alloc (Nat.le_refl _) _, fun Z b => ?_⟩
  have hcell : (W.alloc (.cells #[.slice fa K fc] 24)).cell? ⟨W.heap.size, 0, none⟩ = some (.slice fa K fc) := cell_at9 (heap_new9 _ _ rfl) rfl
  exact (b.cell (p := ⟨W.heap.size, 0, none⟩) (World.block_lt_of_cell? _ _ hcell)).trans hcell
set_option maxRecDepth 100000 in
set_option maxHeartbeats 4000000 in
theorem sound_any {W : World} {cap fc : Nat} {a fa : Option Addr} {fs : List FamD} {l : List EntD} (hr : RdF W (.slice fa fs.length fc) fs) (hn : fa = none → fc = 0) (C : Nat) (hC : (C = 0 ↔ SchemaOk fs) ∧ (C = 0 ∨ C = 28)) (clock : Int) (h0 : RdL3 W a cap l) (hl : l.length ≤ 1353245080300) :
    Calls Try.prog 12 #[.agg #[.slice fa fs.length fc], .int .i64 clock, .slice a l.length cap] W fun r W' => r = .returned (.bool (visE C fs clock l == 0)) ∧ Below W.heap.size W W' := by
  obtain ⟨K, hK⟩ : ∃ K, K = fs.length := ⟨_, rfl⟩
  obtain ⟨N, hN⟩ : ∃ N, N = l.length := ⟨_, rfl⟩
  obtain ⟨X0, hX0, A1, hcell⟩ := sch_box W fa K fc
  have HV : Hid (∃ e, Calls Try.prog 18 #[.agg #[.slice fa K fc], .int .i64 clock, .slice a N cap] X0 fun r W' => Below X0.heap.size X0 W' ∧ ∃ a' n' c', r = .returned (.tuple #[.slice a' n' c', .int .i64 e]) ∧ e = visE C fs clock l) := by
    refine ⟨visE C fs clock l, ?_⟩
    rw [hK, hN]
    by_cases hE : visE C fs clock l = 0
    · refine Calls.mono (vis_good (hr.later A1) hn C hC clock (h0.later A1) hl hE) ?_
      rintro r W' ⟨b, zs, m, a', c', _, rfl, _⟩
      exact ⟨b, _, _, _, by rw [hE], rfl⟩
    · refine Calls.mono (vis_bad (hr.later A1) hn C hC clock (h0.later A1) hl hE) ?_
      rintro r W' ⟨b, rfl⟩
      exact ⟨b, _, _, _, rfl, rfl⟩
  obtain ⟨e, hv⟩ := HV.out
  have HV2 := Lib.hid hv
  have s0 := hcell _ (Below.refl _ _)
  have HA1 := Lib.hid A1
  have HX0 := Lib.hid hX0
  rw [← hK, ← hN]
  obtain ⟨E, hE⟩ : ∃ E, E = visE C fs clock l := ⟨_, rfl⟩
  rw [← hE] at HV2 ⊢
  clear hr hn hC h0 hl hK hN hX0 A1 hcell HV hv hE
  go_enter Try.func12, Try.ntmps12
  go_wp2_with fail
  rw [← HX0.out]
  (try clear HX0)
  go_wp2_with fail
  refine Calls.mono HV2.out ?_
  rintro r w1 ⟨b1, a', n', c', rfl, rfl⟩
  have B1 := Lib.hid b1
  clear b1 HV2 s0
  go_wp2_with (go_at_call 15; refine (num_sym _ _).mono ?_; rintro e1 wn ⟨rfl, rfl⟩)
  go_ret
  exact ⟨rfl, HA1.out.trans (B1.out.mono HA1.out.size)⟩
theorem sound_q {W : World} {cap fc : Nat} {a fa : Option Addr} {fs : List FamD} {l : List EntD} (hr : RdF W (.slice fa fs.length fc) fs) (hn : fa = none → fc = 0) (C : Nat) (hC : (C = 0 ↔ SchemaOk fs) ∧ (C = 0 ∨ C = 28)) (clock : Int) (h0 : RdL3 W a cap l) (hl : l.length ≤ 1353245080300) :
    Calls Try.prog 12 #[.agg #[.slice fa fs.length fc], .int .i64 clock, .slice a l.length cap] W fun r W' => ∃ q : Bool, r = .returned (.bool q) ∧ (q = true ↔ visE C fs clock l = 0) ∧ Below W.heap.size W W' :=
  Calls.mono (sound_any hr hn C hC clock h0 hl) fun r W' h => ⟨_, h.1, by simp, h.2⟩
set_option maxRecDepth 100000 in
set_option maxHeartbeats 4000000 in
theorem agree_ok {W : World} {ca cb fc : Nat} {aa ab fa : Option Addr} {fs : List FamD} {la lb : List EntD} (hr : RdF W (.slice fa fs.length fc) fs) (hn : fa = none → fc = 0) (C : Nat) (hC : (C = 0 ↔ SchemaOk fs) ∧ (C = 0 ∨ C = 28)) (clock t n : Int) (h0 : RdL3 W aa ca la) (h1 : RdL3 W ab cb lb) (hl : la.length ≤ 1353245080300) (hl' : lb.length ≤ 1353245080300)
    (hE : visE C fs clock la = 0) (hE' : visE C fs clock lb = 0) {ma mb : List En} (hm : IsOrd fs.length (la.map EntD.dat) ma) (hm' : IsOrd fs.length (lb.map EntD.dat) mb)
    (hs : ∀ tm n, showS tm n (verdictsS (mt fs) clock ma) = showS tm n (verdictsS (mt fs) clock mb)) (ht : topS (verdictsS (mt fs) clock ma) = topS (verdictsS (mt fs) clock mb)) :
    Calls Try.prog 16 #[.agg #[.slice fa fs.length fc], .int .i64 clock, .int .i64 t, .int .i64 n, .slice aa la.length ca, .slice ab lb.length cb] W fun r W' => r = .returned (.bool true) ∧ Below W.heap.size W W' := by
  obtain ⟨K, hK⟩ : ∃ K, K = fs.length := ⟨_, rfl⟩
  obtain ⟨NA, hNA⟩ : ∃ N, N = la.length := ⟨_, rfl⟩
  obtain ⟨NB, hNB⟩ : ∃ N, N = lb.length := ⟨_, rfl⟩
  obtain ⟨X0, hX0, A1, hcell⟩ := sch_box W fa K fc
  obtain ⟨R, hR⟩ : ∃ R, R = readerS C clock t n := ⟨_, rfl⟩
  obtain ⟨T, hT⟩ : ∃ T, T = topS (verdictsS (mt fs) clock ma) := ⟨_, rfl⟩
  have up : ∀ Z, Below X0.heap.size X0 Z → Below W.heap.size W Z := fun Z b => A1.trans (b.mono A1.size)
  have HRa := Lib.hid (fun (Z : World) (b : Below X0.heap.size X0 Z) => read_both (hr.later (up Z b)) hn C hC clock t n (h0.later (up Z b)) hl (vis_zero hE).2 hm)
  have HRb := Lib.hid (fun (Z : World) (b : Below X0.heap.size X0 Z) => read_both (hr.later (up Z b)) hn C hC clock t n (h1.later (up Z b)) hl' (vis_zero hE').2 hm')
  have HVa := Lib.hid (fun (Z : World) (b : Below X0.heap.size X0 Z) => vis_both (hr.later (up Z b)) hn C hC clock (h0.later (up Z b)) hl hE hm)
  have HVb := Lib.hid (fun (Z : World) (b : Below X0.heap.size X0 Z) => vis_both (hr.later (up Z b)) hn C hC clock (h1.later (up Z b)) hl' hE' hm')
  have HTa := Lib.hid (fun (Z : World) (b : Below X0.heap.size X0 Z) => top_both (hr.later (up Z b)) hn C hC clock (h0.later (up Z b)) hl hE hm)
  have HTb := Lib.hid (fun (Z : World) (b : Below X0.heap.size X0 Z) => top_both (hr.later (up Z b)) hn C hC clock (h1.later (up Z b)) hl' hE' hm')
  rw [← hK, ← hNA, ← hR] at HRa
  rw [← hK, ← hNB, ← hR] at HRb
  rw [← hK, ← hNA] at HVa
  rw [← hK, ← hNB] at HVb
  rw [← hK, ← hNA, ← hT] at HTa
  rw [← hK, ← hNB, ← ht, ← hT] at HTb
  rw [← hK, ← hNA, ← hNB]
  have HS := Lib.hid hs
  have HLA : Hid (NA ≤ 1353245080300) := by unfold Hid; rw [hNA]; exact hl
  have HA1 := Lib.hid A1
  have HX0 := Lib.hid hX0
  have HC0 := Lib.hid hcell
  have s0 := hcell _ (Below.refl _ _)
  clear hr hn hC h0 h1 hl hl' hE hE' hm hm' hs ht hK hNA hNB hX0 A1 hcell hR hT up
  go_enter Try.func16, Try.ntmps16
  go_wp2_with fail
  rw [← HX0.out]
  (try clear HX0)
  go_wp2_with fail
  refine Calls.mono (HRa.out _ (Below.refl _ _)) ?_
  rintro r w1 ⟨b1, xs, a1, c1, rfl, rd1, d1, n1⟩
  have s1 := HC0.out _ b1
  have F1 := Lib.hid (And.intro b1 (And.intro rd1 (And.intro d1 n1)))
  clear b1 rd1 d1 n1 s0
  go_wp2_with fail
  refine Calls.mono (HRb.out _ F1.out.1) ?_
  rintro r w2 ⟨b2, ys, a2, c2, rfl, rd2, d2, n2⟩
  have B2 := Lib.hid (F1.out.1.trans (b2.mono F1.out.1.size))
  have s2 := HC0.out _ B2.out
  have F2 := Lib.hid (And.intro b2 (And.intro rd2 (And.intro d2 n2)))
  clear b2 rd2 d2 n2 s1
  go_wp2_with fail
  refine Calls.mono (HVa.out _ B2.out) ?_
  rintro r w3 ⟨b3, vs, a3, c3, rfl, rd3, d3, n3⟩
  have B3 := Lib.hid (B2.out.trans (b3.mono B2.out.size))
  have s3 := HC0.out _ B3.out
  have F3 := Lib.hid (And.intro b3 (And.intro rd3 (And.intro d3 n3)))
  clear b3 rd3 d3 n3 s2
  go_wp2_with fail
  refine Calls.mono (HVb.out _ B3.out) ?_
  rintro r w4 ⟨b4, us, a4, c4, rfl, rd4, d4, n4⟩
  have B4 := Lib.hid (B3.out.trans (b4.mono B3.out.size))
  have s4 := HC0.out _ B4.out
  have F4 := Lib.hid (And.intro b4 (And.intro rd4 (And.intro d4 n4)))
  clear b4 rd4 d4 n4 s3
  go_wp2_with fail
  refine Calls.mono (HTa.out _ B4.out) ?_
  rintro r w5 ⟨b5, rfl⟩
  have B5 := Lib.hid (B4.out.trans (b5.mono B4.out.size))
  have s5 := HC0.out _ B5.out
  have F5 := Lib.hid b5
  clear b5 s4
  go_wp2_with fail
  refine Calls.mono (HTb.out _ B5.out) ?_
  rintro r w6 ⟨b6, rfl⟩
  have B6 := Lib.hid (B5.out.trans (b6.mono B5.out.size))
  have F6 := Lib.hid b6
  have G4 := Lib.hid (F4.out.1)
  have HS1 : Hid (∀ Z, Below w6.heap.size w6 Z → Calls Try.prog 17 #[.slice a1 xs.length c1, .slice a2 ys.length c2] Z fun e w' => e = .returned (.bool true) ∧ Below Z.heap.size Z w') := fun Z b => by
    have b26 : Below w2.heap.size w2 w6 := F3.out.1.trans ((F4.out.1.trans ((F5.out.trans (F6.out.mono F5.out.size)).mono F4.out.1.size)).mono F3.out.1.size)
    refine sameAll_ok (((F1.out.2.1.later F2.out.1).later b26).later b) ((F2.out.2.1.later b26).later b) ?_ (Nat.le_trans F1.out.2.2.2 HLA.out)
    rw [F1.out.2.2.1, F2.out.2.2.1, HS.out]
  have HS2 : Hid (∀ Z, Below w6.heap.size w6 Z → Calls Try.prog 17 #[.slice a3 vs.length c3, .slice a4 us.length c4] Z fun e w' => e = .returned (.bool true) ∧ Below Z.heap.size Z w') := fun Z b => by
    have b46 : Below w4.heap.size w4 w6 := F5.out.trans (F6.out.mono F5.out.size)
    refine sameAll_ok (((F3.out.2.1.later F4.out.1).later b46).later b) ((F4.out.2.1.later b46).later b) ?_ (Nat.le_trans F3.out.2.2.2 HLA.out)
    rw [F3.out.2.2.1, F4.out.2.2.1, HS.out]
  have T0 : Below w6.heap.size w6 w6 := Below.refl _ _
  clear b6 s5 HRa HRb HVa HVb HTa HTb F1 F2 F3 F4 F5 F6 G4 B2 B3 B4 B5 HC0 HS HLA
  go_wp2_with (first | (go_at_call 15; refine (num_sym _ _).mono ?_; rintro e1 wn ⟨rfl, rfl⟩) | (have hq := T1; clear hq; (go_at_call 17; refine Calls.mono (HS2.out _ T1) ?_; rintro e1 z2 ⟨rfl, t2⟩; have T2 := T1.trans (t2.mono T1.size))) | (go_at_call 17; refine Calls.mono (HS1.out _ T0) ?_; rintro e1 z1 ⟨rfl, t1⟩; have T1 := T0.trans (t1.mono T0.size)))
  go_ret
  have q1 := HA1.out.trans (B6.out.mono HA1.out.size)
  exact ⟨rfl, q1.trans (T2.mono q1.size)⟩
end Go.Proofs.Ytemdhpjoakldhaa

namespace Go.Proofs.Ytemdhpjoakldhaa
open Go.RowKit Go.Maps
set_option linter.unusedVariables false

theorem cmp_trans {x y z : EntD} (h : compareS x y ≤ 0) (k : compareS y z ≤ 0) : compareS x z ≤ 0 := by
  have t := compareS_tri x y z
  unfold Tri at t
  by_cases a : compareS x y = 0
  · by_cases b : compareS y z = 0
    · have := compareS_tri x y z
      unfold Tri at this
      have s1 := compareS_small x z
      omega
    · omega
  · omega
/-- A list that is taken can be put in order. -/
theorem ord_exists {k : Nat} {l : List EntD} (h : inOrderE (check3S k) l = 0) : ∃ m, IsOrd k (l.map EntD.dat) m := by
  obtain ⟨hc, xs, hx⟩ := inOrder_ok h
  refine ⟨_, isOrd_of h hx (List.mergeSort_perm xs (fun x y => decide (compareS x y ≤ 0))) ?_⟩
  have := List.pairwise_mergeSort (le := fun x y : EntD => decide (compareS x y ≤ 0)) (fun a b c h1 h2 => by
    simp only [decide_eq_true_eq] at *
    exact cmp_trans h1 h2) (fun a b => by
    have := compareS_swap a b
    simp only [Bool.or_eq_true, decide_eq_true_eq]
    omega) xs
  exact this.imp (fun h => by simpa using h)
theorem once_ok (l : List EntD) : ∀ (acc : List EntD), (∀ x ∈ acc ++ l, ∀ y ∈ acc ++ l, x.seq = y.seq → x.dat = y.dat) → ∃ xs, l.foldl (fun o e => o.bind fun xs => addO xs e) (some acc) = some xs := by
  induction l with
  | nil => intro acc _; exact ⟨acc, rfl⟩
  | cons e r ih =>
    intro acc h
    show ∃ xs, r.foldl (fun o e => o.bind fun xs => addO xs e) (addO acc e) = some xs
    cases hf : acc.find? (fun x => x.seq == e.seq) with
    | none =>
      have ha : addO acc e = some (acc ++ [e]) := by unfold addO; rw [hf]
      rw [ha]
      exact ih _ (by rw [List.append_assoc]; exact h)
    | some x =>
      have xm := List.mem_of_find?_eq_some hf
      have xs : x.seq = e.seq := by simpa using List.find?_some hf
      have hs : sameS x e = true := sameS_of (h x (List.mem_append_left _ xm) e (by simp) xs)
      rw [addO_old hf, hs, if_pos rfl]
      exact ih _ (fun a ha b hb => h a (by
        rcases List.mem_append.1 ha with q | q
        · exact List.mem_append_left _ q
        · exact List.mem_append_right _ (List.mem_cons_of_mem _ q)) b (by
        rcases List.mem_append.1 hb with q | q
        · exact List.mem_append_left _ q
        · exact List.mem_append_right _ (List.mem_cons_of_mem _ q)))
/-- A list is taken if each entry is, and the same Seq is the same entry. -/
theorem takes_of {k : Nat} {l : List EntD} (hc : ∀ x ∈ l, check3S k x = 0) (hs : ∀ x ∈ l, ∀ y ∈ l, x.seq = y.seq → x.dat = y.dat) : inOrderE (check3S k) l = 0 := by
  obtain ⟨xs, hx⟩ := once_ok l [] (by simpa using hs)
  have ho : onceS l = some xs := hx
  unfold inOrderE
  rw [firstBad_zero hc, if_neg (by simp), if_neg (by rw [ho]; simp)]
theorem pair_eq : ∀ {m : List En}, m.Pairwise (fun a b => a.seq ≠ b.seq) → ∀ {x y : En}, x ∈ m → y ∈ m → x.seq = y.seq → x = y
  | [], _, x, y, hx, _, _ => by cases hx
  | a :: m, h, x, y, hx, hy, e => by
    have h1 := List.pairwise_cons.1 h
    rcases List.mem_cons.1 hx with p | p
    · rcases List.mem_cons.1 hy with q | q
      · rw [p, q]
      · exact absurd (p ▸ e) (h1.1 y q)
    · rcases List.mem_cons.1 hy with q | q
      · exact absurd (q ▸ e.symm) (h1.1 x p)
      · exact pair_eq h1.2 p q e
theorem IsOrd.same {k : Nat} {l m : List En} (h : IsOrd k l m) {x y : En} (hx : x ∈ l) (hy : y ∈ l) (e : x.seq = y.seq) : x = y :=
  pair_eq h.ne ((h.mem x).2 hx) ((h.mem y).2 hy) e
/-- Of a list that is taken each part is. -/
theorem IsOrd.part {k : Nat} {L m : List En} (h : IsOrd k L m) {l : List EntD} (hl : ∀ e ∈ l.map EntD.dat, e ∈ L) : inOrderE (check3S k) l = 0 :=
  takes_of (fun x hx => h.ck x.dat ((h.mem _).2 (hl _ (List.mem_map_of_mem hx)))) (fun x hx y hy e => h.same (hl _ (List.mem_map_of_mem hx)) (hl _ (List.mem_map_of_mem hy)) e)
theorem vis_of {C : Nat} {fs : List FamD} {clock : Int} {l : List EntD} (hC : C = 0) (h0 : 0 ≤ clock) (h1 : clock ≤ 1099511627776) (hi : inOrderE (check3S fs.length) l = 0) : visE C fs clock l = 0 := by
  unfold visE readE readerS boundsS
  have : ([clock, 1099511627776].any badT) = false := by simp [badT]; omega
  simp [hC, this, hi]
theorem squash_of {C : Nat} {fs : List FamD} {clock low : Int} {l : List EntD} (hC : C = 0) (h0 : 0 ≤ clock) (h1 : clock ≤ 1099511627776) (l0 : 0 ≤ low) (l1 : low ≤ 1099511627776) (hi : inOrderE (check3S fs.length) l = 0) : squashE C fs clock low l = 0 := by
  unfold squashE boundsS
  have : ([clock, low].any badT) = false := by simp [badT]; omega
  simp [hC, this, hi]
/-- What a squash left of one list, and another list apart from it, are taken together. -/
theorem left_takes {k : Nat} {fs : List (Int × Int)} {clock low : Int} {major : Bool} {la lb zs ls : List EntD} {mA : List En} {M : List En} (hA : IsOrd k (la.map EntD.dat) mA) (hM : IsOrd k M M) (hb : ∀ e ∈ lb.map EntD.dat, e ∈ M) (hz : zs.map EntD.dat = outS major low (verdictsS fs clock mA)) (ap : ∀ x ∈ la, ∀ y ∈ lb, x.seq ≠ y.seq) (hl : ls.map EntD.dat = zs.map EntD.dat ++ lb.map EntD.dat) : inOrderE (check3S k) ls = 0 := by
  have hL := hA.left (fs := fs) (clock := clock) (low := low) major
  have sq : ∀ e ∈ zs.map EntD.dat, ∃ x ∈ la, x.seq = e.seq := fun e he => by
    rw [hz, out_tld hA.ah hA.va] at he
    obtain ⟨x, hx, _, rfl⟩ := left_mem.1 he
    obtain ⟨y, hy, e1⟩ := List.mem_map.1 ((hA.mem x).1 hx)
    exact ⟨y, hy, by rw [(tld_eq mA x).2.2.2.2.1, ← e1]; rfl⟩
  have sb : ∀ e ∈ lb.map EntD.dat, ∃ y ∈ lb, y.seq = e.seq := fun e he => by
    obtain ⟨y, hy, e1⟩ := List.mem_map.1 he
    exact ⟨y, hy, by rw [← e1]; rfl⟩
  have two : ∀ x ∈ ls, x.dat ∈ zs.map EntD.dat ∨ x.dat ∈ lb.map EntD.dat := fun x hx => by
    have : x.dat ∈ ls.map EntD.dat := List.mem_map_of_mem hx
    rw [hl] at this
    exact List.mem_append.1 this
  refine takes_of (fun x hx => ?_) (fun x hx y hy e => ?_)
  · rcases two x hx with q | q
    · exact hL.ck x.dat (hz ▸ q)
    · exact hM.ck x.dat (hb _ q)
  · have e' : x.dat.seq = y.dat.seq := e
    rcases two x hx with p | p
    · rcases two y hy with q | q
      · exact hL.same (hz ▸ p) (hz ▸ q) e'
      · obtain ⟨u, hu, eu⟩ := sq _ p
        obtain ⟨v, hv, ev⟩ := sb _ q
        exact absurd (eu.trans (e'.trans ev.symm)) (ap u hu v hv)
    · rcases two y hy with q | q
      · obtain ⟨u, hu, eu⟩ := sq _ q
        obtain ⟨v, hv, ev⟩ := sb _ p
        exact absurd (eu.trans (e'.symm.trans ev.symm)) (ap u hu v hv)
      · exact hM.same (hb _ p) (hb _ q) e'
theorem IsOrd.self {k : Nat} {l m : List En} (h : IsOrd k l m) : IsOrd k m m := ⟨h.ah, h.ne, h.va, h.ck, fun _ => Iff.rfl⟩
/-- NEVER SEEN. -/
theorem neverSeen_pure {fs : List FamD} (hS : SchemaOk fs) {clock d : Int} (hc : clock ≤ d) {la lb zs ls : List EntD} {mA M R : List En} (hA : IsOrd fs.length (la.map EntD.dat) mA) (hM : IsOrd fs.length (la.map EntD.dat ++ lb.map EntD.dat) M) (hz : zs.map EntD.dat = outS false 0 (verdictsS (mt fs) clock mA)) (hl : ls.map EntD.dat = zs.map EntD.dat ++ lb.map EntD.dat) (hR : IsOrd fs.length (ls.map EntD.dat) R) :
    (∀ tm n, showS tm n (verdictsS (mt fs) d M) = showS tm n (verdictsS (mt fs) d R)) ∧ topS (verdictsS (mt fs) d M) = topS (verdictsS (mt fs) d R) := by
  obtain ⟨mB, hB⟩ := ord_exists (hM.part (l := lb) (fun e he => List.mem_append_right _ he))
  have r1 := (red_left (fs := mt fs) (clock := clock) (low := 0) hA.ah hA.va (famAt_nn hS)).later hc
  have r := Red.union (m := M) (r := R) r1 (Red.refl mB) hA.ah hB.ah (fun e => by rw [hM.mem, List.mem_append, hA.mem, hB.mem]) (fun e => by
    rw [hR.mem, hl, List.mem_append, hz, out_tld hA.ah hA.va, hB.mem]
    rfl)
  have := (r.wk hM.ah hM.va).seen (hM.max hS) (hR.max hS) hM.ah hM.va hR.ah hR.va
  exact this.2
/-- NOR A MAJOR ONE. -/
theorem majorUnseen_pure {fs : List FamD} (hS : SchemaOk fs) {clock d low : Int} (hc : clock ≤ d) {la lb zs ls : List EntD} {mA M R : List En} (hA : IsOrd fs.length (la.map EntD.dat) mA) (hM : IsOrd fs.length (la.map EntD.dat ++ lb.map EntD.dat) M) (hz : zs.map EntD.dat = outS true low (verdictsS (mt fs) clock mA)) (hl : ls.map EntD.dat = zs.map EntD.dat ++ lb.map EntD.dat) (hR : IsOrd fs.length (ls.map EntD.dat) R) (hb : ∀ y ∈ lb, low < y.ts ∧ ∀ x ∈ la, x.seq < y.seq) :
    (∀ tm n, showS tm n (verdictsS (mt fs) d M) = showS tm n (verdictsS (mt fs) d R)) ∧ topS (verdictsS (mt fs) d M) = topS (verdictsS (mt fs) d R) := by
  have w : Wk5 (mt fs) d M R := major_wk (c := clock) (low := low) (b := lb.map EntD.dat) hc hA.ah hA.va (famAt_nn hS) (fun e => by rw [hM.mem, List.mem_append, hA.mem]) (fun e => by
    rw [hR.mem, hl, List.mem_append, hz, out_tld hA.ah hA.va]
    rfl) (fun y hy => by
    obtain ⟨y', hy', rfl⟩ := List.mem_map.1 hy
    refine ⟨(hb y' hy').1, fun x hx => ?_⟩
    obtain ⟨x', hx', rfl⟩ := List.mem_map.1 ((hA.mem x).1 hx)
    exact (hb y' hy').2 x' hx')
  exact (w.seen (hM.max hS) (hR.max hS) hM.ah hM.va hR.ah hR.va).2
/-- NOTHING COMES BACK. -/
theorem nothingBack_pure {fs : List FamD} (hS : SchemaOk fs) {clock d : Int} (hc : clock ≤ d) {la lb vs us : List EntD} {mA M : List En} (hA : IsOrd fs.length (la.map EntD.dat) mA) (hM : IsOrd fs.length (la.map EntD.dat ++ lb.map EntD.dat) M) (hv : vs.map EntD.dat = (mA.filter fun x => shw 1099511627776 (sv (mt fs) clock mA x)).map (tld mA)) (hu : us.map EntD.dat = (M.filter fun x => shw 1099511627776 (sv (mt fs) d M x)).map (tld M)) {x : EntD} (hx : x ∈ la) (k1 : x.kind = 1) (h : ∃ y ∈ us, hit y.dat x.dat) : ∃ y ∈ vs, hit y.dat x.dat := by
  obtain ⟨y, hy, ht⟩ := h
  have hy' : y.dat ∈ us.map EntD.dat := List.mem_map_of_mem hy
  rw [hu] at hy'
  obtain ⟨z, hz, e⟩ := List.mem_map.1 hy'
  obtain ⟨zm, hz⟩ := List.mem_filter.1 hz
  have xA : x.dat ∈ mA := (hA.mem _).2 (List.mem_map_of_mem hx)
  have sub : ∀ e ∈ mA, e ∈ M := fun e he => (hM.mem e).2 (List.mem_append_left _ ((hA.mem e).1 he))
  have ez : z = x.dat := by
    refine pair_eq hM.ne zm (sub _ xA) ?_
    rw [← (tld_eq M z).2.2.2.2.1, e]
    exact ht.2.2.1
  subst ez
  have hz' := of_decide_eq_true hz
  have f5 := nothing_back (fs := mt fs) hc hA.ah hM.ah sub xA k1 hz'.1
  have i5 := (five_iff xA).1 f5
  have et : tld mA x.dat = x.dat := by
    rw [tld_hk i5.1 i5.2.1 i5.2.2.1]
    unfold hk
    rw [if_neg (by show ¬ x.kind = 3; omega)]
  have hm : x.dat ∈ vs.map EntD.dat := by
    rw [hv]
    refine List.mem_map.2 ⟨x.dat, List.mem_filter.2 ⟨xA, ?_⟩, et⟩
    unfold shw
    rw [decide_eq_true_eq, sv_e, et]
    refine ⟨f5, k1, ?_⟩
    have := (check_zero.1 (hA.ck _ xA)).1.2.2.2.1
    simp only [EntD.ofEn] at this
    omega
  obtain ⟨u, hu, e⟩ := List.mem_map.1 hm
  exact ⟨u, hu, by rw [e]; exact ⟨rfl, rfl, rfl, rfl, rfl, rfl⟩⟩
end Go.Proofs.Ytemdhpjoakldhaa
