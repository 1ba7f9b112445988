import Derived.Test.YthhkpkfpifllkaaK16
import Derived.Deep.DeepAppendRoom
namespace Go.Proofs.Ythhkpkfpifllkaa
open Go.RowKit Go.Maps
set_option linter.unusedVariables false
theorem show_len (tm n : Int) : ∀ (vs : List Vd), (showS tm n vs).2.length ≤ vs.length := by
  have key : ∀ (vs : List Vd) (s : Int × List En), (vs.foldl (showStep tm n) s).2.length ≤ s.2.length + vs.length := by
    intro vs
    induction vs with
    | nil => intro s; exact Nat.le_refl _
    | cons v vs ih =>
      intro s
      rw [List.foldl_cons]
      refine Nat.le_trans (ih _) ?_
      have : (showStep tm n s v).2.length ≤ s.2.length + 1 := by
        unfold showStep
        generalize (if v.rank = 1 then (0 : Int) else s.1) = q
        split
        · simp
        · simp
      simp only [List.length_cons]
      omega
  intro vs
  have := key vs (0, [])
  rw [List.length_nil, Nat.zero_add] at this
  exact this
theorem verd_len {fs : List (Int × Int)} {clock : Int} (l : List En) : (verdictsS fs clock l).length ≤ l.length := by
  have h := (walk_len (fs := fs) (clock := clock) l).1
  unfold verdictsS
  rw [List.length_append, resolve_len]
  omega
theorem famAt_one {fs : List FamD} (h : SchemaOk fs) {i : Int} (h0 : 0 ≤ i) (hk : i < fs.length) : 1 ≤ (famAt (mt fs) i).1 := by
  unfold famAt mt
  rw [List.getD_eq_getElem?_getD, List.getElem?_map]
  cases hf : fs[i.toNat]? with
  | none =>
    have := List.getElem?_eq_none_iff.1 hf
    omega
  | some f => simpa using (h.2 i.toNat f hf).1.2.1.1
theorem IsOrd.max {fs : List FamD} {l m : List En} (h : IsOrd fs.length l m) (hS : SchemaOk fs) : ∀ e ∈ m, 1 ≤ (famAt (mt fs) e.fam).1 := fun e he => by
  have ck := check_zero.1 (h.ck e he)
  simp only [EntD.ofEn] at ck
  exact famAt_one hS (by have := ck.1.2.1; omega) (by have := ck.2; omega)
section
variable {W : World} {cap fc : Nat} {a fa : Option Addr} {fs : List FamD} {l : List EntD}
theorem read_both (hr : RdF W (.slice fa fs.length fc) fs) (hn : fa = none → fc = 0) (C : Nat) (hC : (C = 0 ↔ SchemaOk fs) ∧ (C = 0 ∨ C = 28)) (clock t n : Int) (h0 : RdL3 W a cap l) (hl : l.length ≤ 1353245080300) (hi : inOrderE (check3S fs.length) l = 0) {m : List En} (hm : IsOrd fs.length (l.map EntD.dat) m) :
    Calls Try.prog 8 #[.agg #[.slice fa fs.length fc], .int .i64 clock, .int .i64 t, .int .i64 n, .slice a l.length cap] W fun r W' => Below W.heap.size W W' ∧ ∃ (zs : List EntD) (a' : Option Addr) (c' : Nat), r = .returned (.tuple #[.slice a' zs.length c', .int .i64 (readerS C clock t n)]) ∧ RdL3 W' a' c' zs ∧ zs.map EntD.dat = (if readerS C clock t n = 0 then (showS t n (verdictsS (mt fs) clock m)).2 else []) ∧ zs.length ≤ l.length := by
  refine Calls.mono (read_any sort_ok hr hn C hC clock t n h0 hl) ?_
  rintro r W' ⟨h1, h2, h3⟩
  by_cases hz : readerS C clock t n = 0
  · have hE : readE C fs clock t n l = 0 := by unfold readE; rw [if_neg (by simpa using hz)]; exact hi
    obtain ⟨xs, ys, zs, v, O, k1, k2, k3, k4, k5, k6⟩ := h3 hE
    have ho := isOrd_of hi k1 k2 k3
    rw [ho.unique hm] at k6 ho
    have hc0 : C = 0 := by
      unfold readerS at hz
      by_cases b : boundsS C [clock, t] = 0
      · unfold boundsS at b
        by_cases c : C = 0
        · exact c
        · rw [if_pos c] at b; omega
      · rw [if_pos b] at hz; exact absurd hz b
    have hM : ∀ e ∈ (showS t n (verdictsS (mt fs) clock m)).2, ByE e := fun e he => by
      have key : ∀ (vs : List Vd) (s : Int × List En), e ∈ (vs.foldl (showStep t n) s).2 → e ∈ s.2 ∨ ∃ v ∈ vs, v.e = e := by
        intro vs
        induction vs with
        | nil => intro s h; exact .inl h
        | cons v vs ih =>
          intro s h
          rw [List.foldl_cons] at h
          rcases ih _ h with q | ⟨u, hu, q⟩
          · unfold showStep at q
            generalize (if v.rank = 1 then (0 : Int) else s.1) = q9 at q
            split at q
            · rcases List.mem_append.1 q with q | q
              · exact .inl q
              · rw [List.mem_singleton] at q
                exact .inr ⟨v, List.mem_cons_self, q.symm⟩
            · exact .inl q
          · exact .inr ⟨u, List.mem_cons_of_mem _ hu, q⟩
      rw [show_five (ho.max (hC.1.1 hc0)) ho.ah ho.va] at he
      rcases key _ _ he with q | ⟨v, hv, rfl⟩
      · cases q
      · obtain ⟨e', he', rfl⟩ := List.mem_map.1 hv
        obtain ⟨x, hx, rfl⟩ := List.mem_map.1 he'
        exact tld_by _ (h0.by x ((ho.mem x).1 (List.mem_filter.1 hx).1))
    obtain ⟨a', c', hv, _, hrd⟩ := k5.rdl (fun x hx => by
      have : x.dat ∈ zs.map EntD.dat := List.mem_map_of_mem hx
      rw [k6] at this
      exact hM _ this)
    refine ⟨h1, zs, a', c', by rw [k4, hv, hz], hrd, by rw [if_pos hz]; exact k6, ?_⟩
    have e := congrArg List.length k6
    rw [List.length_map] at e
    rw [e]
    refine Nat.le_trans (show_len _ _ _) (Nat.le_trans (verd_len _) ?_)
    have e2 := congrArg List.length ((isOrd_of hi k1 k2 k3).unique hm)
    rw [List.length_map] at e2
    rw [← e2, k2.length_eq]
    exact onceS_len k1
  · have hE : readE C fs clock t n l = readerS C clock t n := by unfold readE; rw [if_pos hz]
    refine ⟨h1, [], none, 0, by rw [h2 (by rw [hE]; exact hz), hE]; rfl, ⟨⟨Nat.le_refl _, Nat.zero_le _⟩, .inl rfl, fun x hx => by cases hx⟩, by rw [if_neg hz]; rfl, Nat.zero_le _⟩
theorem vis_both (hr : RdF W (.slice fa fs.length fc) fs) (hn : fa = none → fc = 0) (C : Nat) (hC : (C = 0 ↔ SchemaOk fs) ∧ (C = 0 ∨ C = 28)) (clock : Int) (h0 : RdL3 W a cap l) (hl : l.length ≤ 1353245080300) (hE : visE C fs clock l = 0) {m : List En} (hm : IsOrd fs.length (l.map EntD.dat) m) :
    Calls Try.prog 7 #[.agg #[.slice fa fs.length fc], .int .i64 clock, .slice a l.length cap] W fun r W' => Below W.heap.size W W' ∧ ∃ (zs : List EntD) (a' : Option Addr) (c' : Nat), r = .returned (.tuple #[.slice a' zs.length c', .int .i64 0]) ∧ RdL3 W' a' c' zs ∧ zs.map EntD.dat = (showS 1099511627776 16 (verdictsS (mt fs) clock m)).2 ∧ zs.length ≤ l.length := by
  refine Calls.mono (vis_good hr hn C hC clock h0 hl hE) ?_
  rintro r W' ⟨h1, zs, m', a', c', ho, rfl, hrd, e, ln⟩
  have em := ho.unique hm
  subst em
  refine ⟨h1, zs, a', c', rfl, hrd, ?_, ln⟩
  rw [e, show_spec (fun i => famAt_mt (hC.1.1 (vis_zero hE).1) i) ho.ah ho.va]
theorem top_both (hr : RdF W (.slice fa fs.length fc) fs) (hn : fa = none → fc = 0) (C : Nat) (hC : (C = 0 ↔ SchemaOk fs) ∧ (C = 0 ∨ C = 28)) (clock : Int) (h0 : RdL3 W a cap l) (hl : l.length ≤ 1353245080300) (hE : visE C fs clock l = 0) {m : List En} (hm : IsOrd fs.length (l.map EntD.dat) m) :
    Calls Try.prog 16 #[.agg #[.slice fa fs.length fc], .int .i64 clock, .slice a l.length cap] W fun r W' => Below W.heap.size W W' ∧ r = .returned (.tuple #[.int .i64 (topS (verdictsS (mt fs) clock m)), .int .i64 0]) := by
  have hT : topE C fs clock l = 0 := by
    have hz := vis_zero hE
    unfold visE readE at hE
    have hr0 : readerS C clock 1099511627776 16 = 0 := by
      by_cases y : readerS C clock 1099511627776 16 = 0
      · exact y
      · rw [if_pos y] at hE; exact absurd hE y
    have hb := (reader_ok hr0).1
    have : boundsS C [clock] = 0 := by
      unfold boundsS at hb ⊢
      rw [if_neg (by simpa using hz.1)] at hb ⊢
      by_cases z : [clock, 1099511627776].any badT = true
      · rw [if_pos z] at hb; cases hb
      · rw [if_neg]
        simp [badT] at z ⊢
        omega
    unfold topE
    rw [if_neg (by simpa using this)]
    exact hz.2
  refine Calls.mono (top_any sort_ok hr hn C hC clock h0 hl) ?_
  rintro r W' ⟨h1, h2, h3⟩
  obtain ⟨xs, ys, k1, k2, k3, k4⟩ := h3 hT
  have em := (isOrd_of (vis_zero hE).2 k1 k2 k3).unique hm
  exact ⟨h1, by rw [k4, em]⟩
end
end Go.Proofs.Ythhkpkfpifllkaa

namespace Go.Proofs.Ythhkpkfpifllkaa
open Go.RowKit Go.Maps
set_option linter.unusedVariables false

theorem sch_box (W : World) (fa : Option Addr) (K fc : Nat) : ∃ X0, X0 = W.alloc (.cells #[.slice fa K fc] 24) ∧ Below W.heap.size W X0 ∧ ∀ Z, Below X0.heap.size X0 Z → Z.cell? ⟨W.heap.size, 0, none⟩ = some (.slice fa K fc) := by
  refine ⟨_, rfl, (Below.refl _ _).alloc (Nat.le_refl _) _, fun Z b => ?_⟩
  have hcell : (W.alloc (.cells #[.slice fa K fc] 24)).cell? ⟨W.heap.size, 0, none⟩ = some (.slice fa K fc) := cell_at9 (heap_new9 _ _ rfl) rfl
  exact (b.cell (p := ⟨W.heap.size, 0, none⟩) (World.block_lt_of_cell? _ _ hcell)).trans hcell
end Go.Proofs.Ythhkpkfpifllkaa

namespace Go.Proofs.Ythhkpkfpifllkaa
open Go.RowKit Go.Maps
set_option linter.unusedVariables false

theorem box1 (w : World) (a : EntD) : ∃ W, W = w.alloc (.cells a.cells 45) ∧ Below w.heap.size w W ∧ (∀ Z, Below W.heap.size W Z → EBox Z w.heap.size a) ∧ W.heap.size = w.heap.size + 1 :=
  ⟨_, rfl, (Below.refl _ _).alloc (Nat.le_refl _) _, fun Z k => (EBox.new w a).later k, by simp⟩
theorem box2 (w : World) (a b : EntD) : ∃ W, W = (w.alloc (.cells a.cells 45)).alloc (.cells b.cells 45) ∧ Below w.heap.size w W ∧ (∀ Z, Below W.heap.size W Z → EBox Z w.heap.size a ∧ EBox Z (w.heap.size + 1) b) := by
  have A1 := (Below.refl w.heap.size w).alloc (Nat.le_refl _) (.cells a.cells 45)
  refine ⟨_, rfl, A1.alloc A1.size _, fun Z k => ⟨((EBox.new w a).later ((Below.refl _ _).alloc (Nat.le_refl _) _)).later k, ?_⟩⟩
  have := EBox.new (w.alloc (.cells a.cells 45)) b
  rw [World.size_alloc] at this
  exact this.later k
end Go.Proofs.Ythhkpkfpifllkaa

namespace Go.Proofs.Ythhkpkfpifllkaa
open Go.RowKit
set_option linter.unusedVariables false

theorem maskOf_snoc (p : List En) (x e : En) : maskOf (p ++ [x]) e = if cover x e then max (maskOf p e) x.ts else maskOf p e := by
  have nn := maskOf_nn p e
  induction p with
  | nil => simp only [List.nil_append, maskOf_cons]; unfold maskOf; simp only [List.foldr_nil]; split <;> omega
  | cons y p ih =>
    rw [List.cons_append, maskOf_cons, maskOf_cons, ih (maskOf_nn p e)]
    repeat' split
    all_goals omega
def gv (x e : En) : Bool := decide (x.kind ≤ 3) && decide (x.ts = e.ts) && mates x e
theorem gv_gp {x e : En} (h3 : e.kind ≤ 3) : gv x e = gpE x e := by
  rw [Bool.eq_iff_iff, gpE_iff]
  unfold gv
  simp only [Bool.and_eq_true, decide_eq_true_eq, mates_iff]
  exact ⟨fun ⟨⟨a, b⟩, c⟩ => ⟨a, h3, c.1, c.2.1, c.2.2, b⟩, fun ⟨a, _, b, c, d, e⟩ => ⟨⟨a, e⟩, b, c, d⟩⟩
def gputs (m : List En) (e : En) : Nat := (m.filter fun x => gv x e && decide (x.kind ≠ 3)).length
theorem gputs_snoc (p : List En) (x e : En) : gputs (p ++ [x]) e = if gv x e = true ∧ x.kind ≠ 3 then gputs p e + 1 else gputs p e := by
  unfold gputs
  rw [List.filter_append, List.length_append]
  by_cases h : gv x e = true ∧ x.kind ≠ 3
  · rw [if_pos h]; simp [h.1, h.2]
  · rw [if_neg h]
    have : (gv x e && decide (x.kind ≠ 3)) = false := by
      cases g : gv x e with
      | false => rfl
      | true => simp only [Bool.true_and, decide_eq_false_iff_not]; exact fun z => h ⟨g, z⟩
    simp only [List.filter_cons, this, List.filter_nil]
    simp
theorem gputs_pos {m : List En} {e : En} (h3 : e.kind ≤ 3) : 0 < gputs m e ↔ hasPut m e = true := by
  unfold gputs
  rw [List.length_pos_iff_exists_mem, hasPut_iff]
  constructor
  · rintro ⟨x, hx⟩
    obtain ⟨a, b⟩ := List.mem_filter.1 hx
    simp only [Bool.and_eq_true, decide_eq_true_eq] at b
    exact ⟨x, a, by rw [← gv_gp h3]; exact b.1, b.2⟩
  · rintro ⟨x, hx, g, k⟩
    exact ⟨x, List.mem_filter.2 ⟨hx, by simp only [Bool.and_eq_true, decide_eq_true_eq]; exact ⟨by rw [gv_gp h3]; exact g, k⟩⟩⟩
structure Bst (p : List En) (e b : En) : Prop where
  at_ : b = e ∨ (b ∈ p ∧ gv b e = true)
  low : e.seq ≤ b.seq
  all : ∀ x ∈ p, gv x e = true → x.seq ≤ b.seq
theorem Bst.nil (e : En) : Bst [] e e := ⟨.inl rfl, Int.le_refl _, fun x hx => by cases hx⟩
theorem Bst.keep {p : List En} {e b x : En} (h : Bst p e b) (hx : gv x e = true → x.seq ≤ b.seq) : Bst (p ++ [x]) e b := by
  refine ⟨?_, h.low, fun y hy g => ?_⟩
  · rcases h.at_ with z | ⟨z, g⟩
    · exact .inl z
    · exact .inr ⟨List.mem_append_left _ z, g⟩
  · rcases List.mem_append.1 hy with q | q
    · exact h.all y q g
    · rw [List.mem_singleton] at q
      subst q
      exact hx g
theorem Bst.next {p : List En} {e b x : En} (h : Bst p e b) (g : gv x e = true) (hx : b.seq < x.seq) : Bst (p ++ [x]) e x := by
  refine ⟨.inr ⟨by simp, g⟩, by have := h.low; omega, fun y hy gy => ?_⟩
  rcases List.mem_append.1 hy with q | q
  · have := h.all y q gy; omega
  · rw [List.mem_singleton] at q
    subst q
    exact Int.le_refl _
def gkind (b : En) (n : Nat) : Int := if b.kind = 3 then (if 0 < n then 2 else 0) else b.kind
theorem Bst.dec {m : List En} {e b : En} (h : Bst m e b) (h3 : e.kind ≤ 3) (he : e ∈ m) : (b.seq == e.seq) = decidesS m e := by
  rw [Bool.eq_iff_iff, beq_iff_eq, decides_iff]
  constructor
  · intro z x hx g
    have := h.all x hx (by rw [gv_gp h3]; exact g)
    omega
  · intro z
    have hl := h.low
    rcases h.at_ with q | ⟨q, g⟩
    · rw [q]
    · have := z b q (by rw [← gv_gp h3]; exact g)
      omega
theorem Bst.mem {m : List En} {e b : En} (h : Bst m e b) (he : e ∈ m) (h3 : e.kind ≤ 3) : b ∈ m ∧ gpE b e = true := by
  rcases h.at_ with q | ⟨q, g⟩
  · subst q; exact ⟨he, gpE_self h3⟩
  · exact ⟨q, by rw [← gv_gp h3]; exact g⟩
theorem Bst.zero {m : List En} {e b : En} (h : Bst m e b) (hv : ∀ e ∈ m, Va e) (h3 : e.kind ≤ 3) (he : e ∈ m) : gkind b (gputs m e) = 0 ↔ hasPut m e = false := by
  obtain ⟨bm, g⟩ := h.mem he h3
  have k1 := (hv b bm).k1
  unfold gkind
  cases hp : hasPut m e with
  | true =>
    have := (gputs_pos h3).2 hp
    split
    · simp
    · simp; omega
  | false =>
    have n0 : ¬ 0 < gputs m e := fun z => by rw [(gputs_pos h3).1 z] at hp; cases hp
    have b3 : b.kind = 3 := by
      by_cases z : b.kind = 3
      · exact z
      · rw [hasPut_iff.2 ⟨b, bm, g, z⟩] at hp; cases hp
    simp [b3, n0]
theorem Bst.kind {m : List En} {e b : En} (h : Bst m e b) (hn : m.Pairwise fun a b => a.seq ≠ b.seq) (hv : ∀ e ∈ m, Va e) (h3 : e.kind ≤ 3) (he : e ∈ m) (hd : decidesS m e = true) (hp : hasPut m e = true) (pe : ∀ {x y : En}, x ∈ m → y ∈ m → x.seq = y.seq → x = y) : gkind b (gputs m e) = (hk e).kind := by
  have hs : b.seq = e.seq := by have := h.dec h3 he; rw [hd] at this; simpa using this
  obtain ⟨bm, g⟩ := h.mem he h3
  have e1 := pe bm he hs
  subst e1
  have n0 := (gputs_pos h3).2 hp
  unfold gkind hk
  by_cases z : b.kind = 3
  · simp [z, n0]
  · simp [z]
section
variable {fs : List (Int × Int)} {clock : Int}
def ranks (fs : List (Int × Int)) (clock : Int) (m : List En) (e x : En) : Bool := decide (x.kind ≤ 3) && decide (e.ts < x.ts) && mates x e && hasPut m x && decidesS m x && (decide (maskOf m x < x.ts) && !expS fs clock x)
theorem ranks_above {m : List En} {e : En} : ((m.filter (ranks fs clock m e)).length : Int) = above fs clock m e := by
  unfold above
  congr 2
  apply List.filter_congr
  intro x hx
  rw [Bool.eq_iff_iff]
  unfold ranks
  simp only [Bool.and_eq_true, decide_eq_true_eq, Bool.not_eq_true', counts_put hx]
  constructor
  · rintro ⟨⟨⟨⟨⟨a, b⟩, c⟩, d⟩, f⟩, g, h⟩
    exact ⟨⟨⟨a, f, d, g, h⟩, c⟩, b⟩
  · rintro ⟨⟨⟨a, f, d, g, h⟩, c⟩, b⟩
    exact ⟨⟨⟨⟨⟨a, b⟩, c⟩, d⟩, f⟩, g, h⟩
def visB (fs : List (Int × Int)) (clock : Int) (m : List En) (x : En) : Bool := decide (x.kind = 1) && (decidesS m x && (decide (maskOf m x < x.ts) && !expS fs clock x) && decide (above fs clock m x + 1 ≤ (famAt fs x.fam).1))
theorem visB_five {m : List En} {x : En} (hx : x ∈ m) : visB fs clock m x = (decide (x.kind = 1) && decide ((sv fs clock m x).fate = 5)) := by
  rw [Bool.eq_iff_iff]
  unfold visB
  simp only [Bool.and_eq_true, decide_eq_true_eq, Bool.not_eq_true', five_iff hx]
  constructor
  · rintro ⟨k, ⟨d, a, b⟩, r⟩
    exact ⟨k, by omega, d, hasPut_iff.2 ⟨x, hx, gpE_self (by omega), by omega⟩, a, b, r⟩
  · rintro ⟨k, _, d, _, a, b, r⟩
    exact ⟨k, ⟨d, a, b⟩, r⟩
theorem five_put {m : List En} {x : En} (hx : x ∈ m) (h : (sv fs clock m x).fate = 5) : (tld m x).kind = 1 ↔ x.kind = 1 := by
  obtain ⟨h3, hd, hp, _⟩ := (five_iff hx).1 h
  rw [tld_hk h3 hd hp]
  have := (hk_eq x).2.2.2.2.2.2
  omega
theorem vis_five (m : List En) : m.filter (visB fs clock m) = (fiveL fs clock m).filter (fun e => decide (e.kind = 1)) := by
  unfold fiveL
  rw [List.filter_map, List.filter_filter]
  have e1 : m.filter (visB fs clock m) = m.filter fun x => ((fun e => decide (e.kind = 1)) ∘ tld m) x && decide ((sv fs clock m x).fate = 5) := by
    apply List.filter_congr
    intro x hx
    rw [visB_five hx]
    cases h : decide ((sv fs clock m x).fate = 5) with
    | false => simp
    | true =>
      have := five_put hx (of_decide_eq_true h)
      simp only [Bool.and_true, Function.comp]
      rw [Bool.eq_iff_iff, decide_eq_true_eq, decide_eq_true_eq]
      exact this.symm
  rw [e1]
  have e2 : ∀ x ∈ m.filter (fun x => ((fun e => decide (e.kind = 1)) ∘ tld m) x && decide ((sv fs clock m x).fate = 5)), tld m x = x := fun x hx => by
    obtain ⟨xm, hx⟩ := List.mem_filter.1 hx
    simp only [Bool.and_eq_true, decide_eq_true_eq, Function.comp] at hx
    obtain ⟨h3, hd, hp, _⟩ := (five_iff xm).1 hx.2
    have k := (five_put xm hx.2).1 hx.1
    rw [tld_hk h3 hd hp]
    unfold hk
    rw [if_neg (by omega)]
  conv => lhs; rw [← List.map_id (m.filter _)]
  exact List.map_congr_left (fun x hx => (e2 x hx).symm)
theorem mates_same {l e : En} (h : mates l e = true) (y : En) : mates y l = mates y e := by
  have a := mates_iff.1 h
  simp only [mates, a.1, a.2.1, a.2.2]
theorem five_dist {m : List En} (hs : m.Pairwise Ah) : ∀ x ∈ fiveL fs clock m, ∀ y ∈ fiveL fs clock m, mates x y = true → x.ts = y.ts → x = y := fun x hx y hy M t => by
  obtain ⟨a, am, ha, rfl⟩ := five_mem.1 hx
  obtain ⟨b, bm, hb, rfl⟩ := five_mem.1 hy
  obtain ⟨a1, a2, a3, a4, _⟩ := hk_eq a
  obtain ⟨b1, b2, b3, b4, _⟩ := hk_eq b
  have M := mates_iff.1 M
  have := one_decides hs am bm (gpE_iff.2 ⟨ha.1, hb.1, by rw [← a1, M.1, b1], by rw [← a2, M.2.1, b2], by rw [← a3, M.2.2, b3], by rw [← a4, t, b4]⟩) ha.2.1 hb.2.1
  rw [this]
theorem five_three {m : List En} : ∀ x ∈ fiveL fs clock m, x.kind ≤ 3 := fun x hx => by
  obtain ⟨a, am, ha, rfl⟩ := five_mem.1 hx
  have := (hk_eq a).2.2.2.2.2.2
  have := ha.1
  omega
def topR (fs : List (Int × Int)) (clock : Int) (m p : List En) : Int := p.foldl (fun t x => if (x.kind ≤ 3 ∧ hasPut m x = true ∧ maskOf m x < x.ts ∧ expS fs clock x = false) ∧ t < x.ts then x.ts else t) 0
theorem topR_snoc (m p : List En) (x : En) : topR fs clock m (p ++ [x]) = if (x.kind ≤ 3 ∧ hasPut m x = true ∧ maskOf m x < x.ts ∧ expS fs clock x = false) ∧ topR fs clock m p < x.ts then x.ts else topR fs clock m p := by
  unfold topR
  rw [List.foldl_append]
  rfl
theorem topR_spec (m : List En) : ∀ p : List En, (0 ≤ topR fs clock m p) ∧ (∀ x ∈ p, (x.kind ≤ 3 ∧ hasPut m x = true ∧ maskOf m x < x.ts ∧ expS fs clock x = false) → x.ts ≤ topR fs clock m p) ∧ (topR fs clock m p = 0 ∨ ∃ x ∈ p, (x.kind ≤ 3 ∧ hasPut m x = true ∧ maskOf m x < x.ts ∧ expS fs clock x = false) ∧ x.ts = topR fs clock m p) := by
  have key : ∀ (p : List En) (a : Int), 0 ≤ a → (a ≤ p.foldl (fun t x => if (x.kind ≤ 3 ∧ hasPut m x = true ∧ maskOf m x < x.ts ∧ expS fs clock x = false) ∧ t < x.ts then x.ts else t) a) ∧ (∀ x ∈ p, (x.kind ≤ 3 ∧ hasPut m x = true ∧ maskOf m x < x.ts ∧ expS fs clock x = false) → x.ts ≤ p.foldl (fun t x => if (x.kind ≤ 3 ∧ hasPut m x = true ∧ maskOf m x < x.ts ∧ expS fs clock x = false) ∧ t < x.ts then x.ts else t) a) ∧ (p.foldl (fun t x => if (x.kind ≤ 3 ∧ hasPut m x = true ∧ maskOf m x < x.ts ∧ expS fs clock x = false) ∧ t < x.ts then x.ts else t) a = a ∨ ∃ x ∈ p, (x.kind ≤ 3 ∧ hasPut m x = true ∧ maskOf m x < x.ts ∧ expS fs clock x = false) ∧ x.ts = p.foldl (fun t x => if (x.kind ≤ 3 ∧ hasPut m x = true ∧ maskOf m x < x.ts ∧ expS fs clock x = false) ∧ t < x.ts then x.ts else t) a) := by
    intro p
    induction p with
    | nil => intro a ha; exact ⟨Int.le_refl _, (fun x hx => by cases hx), .inl rfl⟩
    | cons y p ih =>
      intro a ha
      rw [List.foldl_cons]
      by_cases z : (y.kind ≤ 3 ∧ hasPut m y = true ∧ maskOf m y < y.ts ∧ expS fs clock y = false) ∧ a < y.ts
      · rw [if_pos z]
        obtain ⟨i1, i2, i3⟩ := ih y.ts (by omega)
        refine ⟨by omega, fun x hx hc => ?_, ?_⟩
        · rcases List.mem_cons.1 hx with rfl | hx
          · exact i1
          · exact i2 x hx hc
        · rcases i3 with q | ⟨x, hx, hc, q⟩
          · exact .inr ⟨y, List.mem_cons_self, z.1, q.symm⟩
          · exact .inr ⟨x, List.mem_cons_of_mem _ hx, hc, q⟩
      · rw [if_neg z]
        obtain ⟨i1, i2, i3⟩ := ih a ha
        refine ⟨i1, fun x hx hc => ?_, ?_⟩
        · rcases List.mem_cons.1 hx with rfl | hx
          · have : ¬ a < x.ts := fun q => z ⟨hc, q⟩
            omega
          · exact i2 x hx hc
        · rcases i3 with q | ⟨x, hx, hc, q⟩
          · exact .inl q
          · exact .inr ⟨x, List.mem_cons_of_mem _ hx, hc, q⟩
  intro p
  exact key p 0 (Int.le_refl _)
theorem counts_verd {m : List En} (hs : m.Pairwise Ah) (hv : ∀ e ∈ m, Va e) {x : En} (hx : x ∈ m) (hc : counts fs clock m x = true) : x.ts ≤ topS (verdictsS fs clock m) := by
  have c := (counts_put hx).1 hc
  have e := sv_ver (fs := fs) (clock := clock) c.1 c.2.1 c.2.2.2.1 c.2.2.2.2
  rw [if_neg ((kd_put hx c.1).2 c.2.2.1)] at e
  have hm : sv fs clock m x ∈ (verdictsS fs clock m).filter kept := by
    rw [verdicts_spec hs hv]
    refine List.mem_filter.2 ⟨List.mem_map_of_mem hx, ?_⟩
    rw [e]
    unfold kept
    simp only [decide_eq_true_eq]
    split <;> decide
  have := topS_le _ _ (List.mem_filter.1 hm).1 (by rw [e]; simp only; unfold above; omega)
  rw [e] at this
  exact this
theorem top_ref {m : List En} (hs : m.Pairwise Ah) (hv : ∀ e ∈ m, Va e) : topS (verdictsS fs clock m) = topR fs clock m m := by
  obtain ⟨r0, r1, r2⟩ := topR_spec (fs := fs) (clock := clock) m m
  refine Int.le_antisymm ?_ ?_
  · rcases topS_att (verdictsS fs clock m) with e | ⟨v, hv1, rk, t1⟩
    · omega
    · have : v ∈ (verdictsS fs clock m).filter kept := List.mem_filter.2 ⟨hv1, by unfold kept; simpa using verd_rank m v hv1 rk⟩
      rw [verdicts_spec hs hv] at this
      obtain ⟨x, hx, rfl⟩ := List.mem_map.1 (List.mem_filter.1 this).1
      have c := (counts_put hx).1 (sv_rank hx rk)
      rw [sv_e, (tld_eq m x).2.2.2.1] at t1
      rw [← t1]
      exact r1 x hx ⟨c.1, c.2.2.1, c.2.2.2.1, c.2.2.2.2⟩
  · rcases r2 with e | ⟨x, hx, hc, t1⟩
    · have : 0 ≤ topS (verdictsS fs clock m) := topS_nn _ fun v hv2 h => by
        have : v ∈ (verdictsS fs clock m).filter kept := List.mem_filter.2 ⟨hv2, by unfold kept; simpa using verd_rank m v hv2 h⟩
        rw [verdicts_spec hs hv] at this
        obtain ⟨y, hy, rfl⟩ := List.mem_map.1 (List.mem_filter.1 this).1
        rw [sv_e, (tld_eq m y).2.2.2.1]
        have := (hv y hy).ts
        omega
      omega
    · obtain ⟨z, hz, g, d⟩ := decider hs hx hc.1
      obtain ⟨g1, g2, g3, g4, g5, g6⟩ := gpE_iff.1 g
      have M := mates_of g
      have := counts_verd (fs := fs) (clock := clock) hs hv hz ((counts_put hz).2 ⟨g1, d, by rw [hasPut_gp g]; exact hc.2.1, by rw [mask_mates M g1 hc.1]; omega, by rw [exp_mates g4 g6]; exact hc.2.2.2⟩)
      omega
def fateR (fs : List (Int × Int)) (clock : Int) (major : Bool) (low : Int) (m : List En) (e : En) : Option En :=
  if 4 ≤ e.kind then (if shadow m e || (major && decide (e.ts ≤ low)) then none else some e)
  else if decidesS m e = false then none
  else if e.ts ≤ maskOf m e then none
  else if expS fs clock e then none
  else if hasPut m e = false then (if major then none else some e)
  else if (famAt fs e.fam).1 < above fs clock m e + 1 then none
  else some (hk e)
theorem squash_ref {m : List En} {major : Bool} {low : Int} : leftL fs clock m major low = m.filterMap (fateR fs clock major low m) := by
  unfold leftL
  have key : ∀ p : List En, (∀ x ∈ p, x ∈ m) → (p.filter fun x => staysS major low (sv fs clock m x)).map (tld m) = p.filterMap (fateR fs clock major low m) := by
    intro p
    induction p with
    | nil => intro _; rfl
    | cons x p ih =>
      intro hp
      have ih := ih (fun y hy => hp y (List.mem_cons_of_mem _ hy))
      have hx := hp x List.mem_cons_self
      have one : (staysS major low (sv fs clock m x) = true → fateR fs clock major low m x = some (tld m x)) ∧ (staysS major low (sv fs clock m x) = false → fateR fs clock major low m x = none) := by
        unfold fateR
        by_cases k : 4 ≤ x.kind
        · rw [if_pos k, sv_mark k]
          have et : tld m x = x := by unfold tld; rw [if_pos k]
          rw [et]
          cases sh : shadow m x with
          | true => simp [staysS]
          | false =>
            cases major with
            | false => simp [staysS]
            | true =>
              by_cases z : x.ts ≤ low
              · have : ¬ low < x.ts := by omega
                simp [staysS, z, this]
              · have : low < x.ts := by omega
                simp [staysS, z, this]
        · rw [if_neg k]
          have k3 : x.kind ≤ 3 := by omega
          cases hd : decidesS m x with
          | false =>
            have : sv fs clock m x = ⟨x, 1, 0⟩ := sv_not k3 hd
            rw [this]
            simp [staysS]
          | true =>
            rw [if_neg (by simp)]
            by_cases hm : x.ts ≤ maskOf m x
            · rw [if_pos hm]
              have : staysS major low (sv fs clock m x) = false := by
                cases z : staysS major low (sv fs clock m x) with
                | false => rfl
                | true => have := (stays_ver k3 z).2.1; omega
              simp [this]
            · rw [if_neg hm]
              cases he : expS fs clock x with
              | true =>
                have : staysS major low (sv fs clock m x) = false := by
                  cases z : staysS major low (sv fs clock m x) with
                  | false => rfl
                  | true => have := (stays_ver k3 z).2.2.1; rw [he] at this; cases this
                simp [this]
              | false =>
                rw [if_neg (by simp)]
                rw [sv_ver k3 hd (by omega) he]
                cases hpt : hasPut m x with
                | false =>
                  have kk : kd m x = 3 := by
                    by_cases z : kd m x = 3
                    · exact z
                    · rw [(kd_put hx k3).1 z] at hpt; cases hpt
                  have et : tld m x = x := by
                    rw [tld_ver k3 hd]
                    unfold kd at kk ⊢
                    simp only [hpt] at kk ⊢
                    simp
                  rw [if_pos rfl, if_pos kk, et]
                  cases major <;> simp [staysS]
                | true =>
                  rw [if_neg ((kd_put hx k3).2 hpt), if_neg (show ¬ (true = false) by simp), tld_hk k3 hd hpt]
                  by_cases z : (famAt fs x.fam).1 < above fs clock m x + 1
                  · simp [staysS, z]
                  · simp [staysS, z]
      cases hst : staysS major low (sv fs clock m x) with
      | true => rw [List.filter_cons_of_pos (by simpa using hst), List.map_cons, ih, List.filterMap_cons, one.1 hst]
      | false => rw [List.filter_cons_of_neg (by simp [hst]), ih, List.filterMap_cons, one.2 hst]
  exact key m (fun x hx => hx)
end
end Go.Proofs.Ythhkpkfpifllkaa

namespace Go.Proofs.Ythhkpkfpifllkaa
open Go.RowKit Go.Maps
set_option linter.unusedVariables false

theorem box_se (w : World) (fa : Option Addr) (K fc : Nat) (e : EntD) : ∃ W, W = (w.alloc (.cells #[.slice fa K fc] 24)).alloc (.cells e.cells 45) ∧ Below w.heap.size w W ∧ (∀ Z, Below W.heap.size W Z → Z.cell? ⟨w.heap.size, 0, none⟩ = some (.slice fa K fc) ∧ EBox Z (w.heap.size + 1) e) := by
  obtain ⟨X0, hX0, A1, hc⟩ := sch_box w fa K fc
  obtain ⟨W, hW, A2, hb, -⟩ := box1 X0 e
  have sz : X0.heap.size = w.heap.size + 1 := by rw [hX0]; simp
  refine ⟨W, by rw [hW, hX0], A1.trans (A2.mono A1.size), fun Z k => ⟨hc Z (A2.trans (k.mono A2.size)), ?_⟩⟩
  have := hb Z k
  rw [sz] at this
  exact this
theorem fam_cell {w : World} {fa : Option Addr} {fc : Nat} {fs : List FamD} (hr : RdF w (.slice fa fs.length fc) fs) {k : Nat} (hk : k < fs.length) : ∃ b off fd, fa = some ⟨b, off, none⟩ ∧ fs[k]? = some fd ∧ ∀ Z, Below w.heap.size w Z → Z.cell? ⟨b, off + k * 3 + 1, none⟩ = some (.int .i64 fd.mx) ∧ Z.cell? ⟨b, off + k * 3 + 2, none⟩ = some (.int .i64 fd.tl) := by
  obtain ⟨a', c', e, _, _, _, h5⟩ := id hr
  rcases h5 with h5 | ⟨b, off, q, _⟩
  · rw [h5] at hk; simp at hk
  · simp only [Value.slice.injEq] at e
    obtain ⟨fd, hfd⟩ : ∃ fd, fs[k]? = some fd := ⟨fs[k], List.getElem?_eq_getElem _⟩
    refine ⟨b, off, fd, e.1.trans q, hfd, fun Z k' => ?_⟩
    obtain ⟨a2, c2, e2, _, _, _, h6⟩ := hr.later k'
    rcases h6 with h6 | ⟨b2, off2, q2, hc2⟩
    · rw [h6] at hk; simp at hk
    · simp only [Value.slice.injEq] at e2
      have := (e.1.trans q).symm.trans (e2.1.trans q2)
      cases this
      exact ⟨(hc2 k fd hfd).2.1, (hc2 k fd hfd).2.2⟩
theorem fam_mt {fs : List FamD} {k : Nat} {fd : FamD} (h : fs[k]? = some fd) : famAt (mt fs) (k : Int) = (fd.mx, fd.tl) := by
  unfold famAt mt
  rw [List.getD_eq_getElem?_getD, List.getElem?_map]
  simp [h]
structure UndE (fs : List FamD) (e : EntD) : Prop where
  f0 : 0 ≤ e.fam
  fK : e.fam < fs.length
  t1 : 1 ≤ e.ts
  t2 : e.ts ≤ 1099511627776
def inB (fs : List FamD) (clock : Int) (m : List En) (e : En) : Bool := decide (maskOf m e < e.ts) && !expS (mt fs) clock e
end Go.Proofs.Ythhkpkfpifllkaa

namespace Go.Proofs.Ythhkpkfpifllkaa
open Go.RowKit
set_option linter.unusedVariables false

theorem append_keep {w : World} {B n m c : Nat} {v : Value} {xs bs : List Nat} (ty : TypeId) (hown : Own w B v n xs) (ad : Addr) (hm : m = bs.length) (hnews : ∀ j u, (bv bs)[j]? = some u → w.cell? (ad.add j) = some u) (hp : 0 < m) (hbytes : n + m ≤ 140737488355328) (hB : B ≤ w.heap.size) :
    ∃ v' w', (Builtin.append_ #[43, 43] ty #[v, .slice (some ad) m c]).run Try.prog w = .ok v' w' ∧ Own w' B v' (n + m) (xs ++ bs) ∧ w.grownBy w' v.ownBlock ∧ Own w' B v n xs ∧ (v'.ownBlock = v.ownBlock ∨ v'.ownBlock = some w.heap.size) := by
  obtain ⟨i0, hi, hz0, hz1, hz2⟩ := info_parts info_byte
  have hl : (bv bs).length = m * 1 := by simp [bv, hm]
  obtain ⟨v', w', hr, h2, h3, _⟩ := run_append_own (P := Try.prog) w B 43 ty 5 i0 (.int .u8 0) 1 1 und_bytes hi hz0 hz1 hz2 rfl (by decide) v n (bv xs) hown.2 ad m c (bv bs) hl hnews (bv_oneCell bs) (by unfold maxLen; omega) (by omega) hB
  have o2 : Own w' B v' (n + m) (xs ++ bs) := ⟨by rw [hown.1, hm]; simp, by simpa [bv] using h2⟩
  refine ⟨v', w', hr, o2, h3, ?_⟩
  rcases hown.2.2 with ⟨rfl, h0⟩ | ⟨g, cap, cur, rfl, hg1, hg2, hg3, hg4, hg5, hg6⟩
  · have hx : xs = [] := List.eq_nil_of_length_eq_zero (by rw [← hown.1]; exact h0)
    subst hx h0
    have hr2 := run_append_nil (P := Try.prog) w 43 ty 5 i0 (.int .u8 0) und_bytes hi hz0 ad m c (bv bs) (by rw [hz1]; exact hl) hnews hp (by omega) (by rw [hz2]; omega)
    rw [hr] at hr2
    injection hr2 with e1 e2
    subst e1
    exact ⟨own_nil _ _, .inr rfl⟩
  · by_cases hroom : n + m ≤ cap
    · obtain ⟨w2, hr2, k2, _⟩ := run_append_own_spare (P := Try.prog) w B 43 ty 5 i0 1 und_bytes hi hz1 g n cap (bv xs) hown.2 ad m c (bv bs) hl hnews (bv_oneCell bs) hroom
      rw [hr] at hr2
      injection hr2 with e1 e2
      subst e1 e2
      refine ⟨⟨hown.1, hown.2.1, ?_⟩, .inl rfl⟩
      rcases o2.2.2 with ⟨h5, _⟩ | ⟨g2, cap2, cur2, h5, h6, h7, h8, h9, h10, h11⟩
      · cases h5
      · simp only [Value.slice.injEq, Option.some.injEq] at h5
        obtain ⟨e3, _, rfl⟩ := h5
        obtain rfl : g = g2 := by injection e3
        refine .inr ⟨g, cap, cur2, rfl, h6, h7, hg3, hg4, h10, ?_⟩
        have e4 : cur2.toList.take (n * 1) = (cur2.toList.take ((n + m) * 1)).take (n * 1) := by
          rw [List.take_take, Nat.min_eq_left (by omega)]
        rw [e4, h11, bv_append, List.take_append_of_le_length (by rw [bv_length, ← hown.1]; omega), List.take_of_length_le (by rw [bv_length, ← hown.1]; omega)]
    · have holds : ∀ j u, (bv xs)[j]? = some u → w.cell? ((⟨g, 0, none⟩ : Addr).add j) = some u := hown.2.cells (g := g) rfl
      have hr2 := run_append_grow (P := Try.prog) w 43 ty 5 i0 (.int .u8 0) und_bytes hi hz0 ⟨g, 0, none⟩ n cap (bv xs) (by rw [hz1, bv_length, ← hown.1]; omega) holds ad m c (bv bs) (by rw [hz1]; exact hl) hnews (by omega) (by omega) (by rw [hz2]; exact growslice_fits (by omega) (by omega))
      rw [hr] at hr2
      injection hr2 with e1 e2
      subst e1
      refine ⟨?_, .inr rfl⟩
      refine ⟨hown.1, hown.2.1, .inr ⟨g, cap, cur, rfl, hg1, ?_, hg3, hg4, hg5, hg6⟩⟩
      rw [e2, heap_alloc_old w.drew _ (Array.getElem?_eq_some_iff.1 hg2).1]
      exact hg2


def Keeps (mk : Nat) (w w' : World) : Prop := ∀ p : Addr, w.cell? p = some (.int .u8 (mk : Int)) → w'.cell? p = some (.int .u8 (mk : Int))
theorem Keeps.refl (mk : Nat) (w : World) : Keeps mk w w := fun _ h => h
theorem Keeps.trans {mk : Nat} {a b c : World} (h : Keeps mk a b) (k : Keeps mk b c) : Keeps mk a c := fun p hp => k p (h p hp)
theorem Keeps.alloc (mk : Nat) (w : World) (o : Obj) : Keeps mk w (w.alloc o) := fun p hp => by
  have hb : Below w.heap.size w (w.alloc o) := (Below.refl _ _).alloc (Nat.le_refl _) o
  rw [hb.cell (World.block_lt_of_cell? w _ hp)]; exact hp
theorem Keeps.below {mk : Nat} {w w' : World} (hb : Below w.heap.size w w') : Keeps mk w w' := fun p hp => by
  rw [hb.cell (World.block_lt_of_cell? w _ hp)]; exact hp
theorem Keeps.rd {mk k : Nat} {w w' : World} {v : Value} (h : Keeps mk w w') (hr : Rd w v (List.replicate k mk)) : Rd w' v (List.replicate k mk) := by
  obtain ⟨h1, a, cap, h2, h3, h4, h5, h6, h7⟩ := hr
  refine ⟨h1, a, cap, h2, h3, h4, h5, h6, ?_⟩
  rcases h7 with h7 | ⟨b, off, rfl, hc⟩
  · exact .inl h7
  · refine .inr ⟨b, off, rfl, fun i hi => ?_⟩
    have e : (List.replicate k mk).getD i 0 = mk := by
      have hi2 : i < k := by simpa using hi
      simp [List.getD, hi2]
    have := hc i hi
    rw [e] at this ⊢
    exact h _ this
theorem grown_trans {a b c : World} {o p : Option Nat} (h : a.grownBy b o) (k : b.grownBy c p) (hp : p = o ∨ ∀ g, p = some g → a.heap.size ≤ g) : a.grownBy c o :=
  ⟨k.os.trans h.os, k.tape.trans h.tape, k.output.trans h.output, Nat.le_trans h.size k.size, fun i hi hne => by
    rw [k.block i (Nat.lt_of_lt_of_le hi h.size) ?_, h.block i hi hne]
    rcases hp with rfl | hp
    · exact hne
    · intro e
      have := hp i e.symm
      omega⟩
theorem grown_alloc (w : World) (o : Obj) (p : Option Nat) : w.grownBy (w.alloc o) p := ⟨rfl, rfl, rfl, by simp, fun k hk _ => by
  have hb : Below w.heap.size w (w.alloc o) := (Below.refl _ _).alloc (Nat.le_refl _) o
  exact hb.block k hk⟩
theorem grown_below {w w' : World} (h : Below w.heap.size w w') (p : Option Nat) : w.grownBy w' p := ⟨h.os, h.tape, h.output, h.size, fun k hk _ => h.block k hk⟩
theorem below_grown {w w' : World} (h : w.grownBy w' none) : Below w.heap.size w w' := ⟨h.os, h.tape, h.output, h.size, fun k hk => h.block k hk (by simp)⟩

theorem append_marks {w w' : World} {B n m c mk : Nat} {v v' : Value} {xs : List Nat} (ty : TypeId) (hown : Own w B v n xs) (ad : Addr) (hnews : ∀ j u, (bv (List.replicate m mk))[j]? = some u → w.cell? (ad.add j) = some u) (hp : 0 < m) (hbytes : n + m ≤ 140737488355328)
    (hr : (Builtin.append_ #[43, 43] ty #[v, .slice (some ad) m c]).run Try.prog w = .ok v' w') : Keeps mk w w' := by
  obtain ⟨i0, hi, hz0, hz1, hz2⟩ := info_parts info_byte
  have hl : (bv (List.replicate m mk)).length = m * 1 := by simp [bv]
  rcases hown.2.2 with ⟨rfl, h0⟩ | ⟨g, cap, cur, rfl, hg1, hg2, hg3, hg4, hg5, hg6⟩
  · have hx : xs = [] := List.eq_nil_of_length_eq_zero (by rw [← hown.1]; exact h0)
    subst hx h0
    have hr2 := run_append_nil (P := Try.prog) w 43 ty 5 i0 (.int .u8 0) und_bytes hi hz0 ad m c _ (by rw [hz1]; exact hl) hnews hp (by omega) (by rw [hz2]; omega)
    rw [hr] at hr2
    injection hr2 with e1 e2
    rw [e2]
    exact Keeps.below (((Below.refl w.heap.size w).drew).alloc (Nat.le_refl _) _)
  · by_cases hroom : n + m ≤ cap
    · have hfit : n * i0.size + (bv (List.replicate m mk)).length ≤ cur.size := by rw [hz1, hl, hg5]; omega
      have hr2 := run_append_room (P := Try.prog) w 43 ty 5 i0 und_bytes hi g n cap cur hg2 ad m c _ (by rw [hz1]; exact hl) hnews (bv_oneCell _) hroom hfit
      rw [hr] at hr2
      injection hr2 with e1 e2
      rw [e2]
      intro p hc
      obtain ⟨pb, po, ps⟩ := p
      obtain rfl : ps = none := World.cell?_spot hc
      by_cases hb : pb = g
      · subst hb
        rw [cell_setRow_same w pb po cur _ _ _ hg2]
        have hcur : cur[po]? = some (.int .u8 (mk : Int)) := by simpa [World.cell?, hg2] using hc
        have hlt : po < cur.size := (Array.getElem?_eq_some_iff.1 hcur).1
        have hcl : cur.toList[po]? = some (.int .u8 (mk : Int)) := by simpa using hcur
        simp only [hz1, Nat.mul_one, List.getElem?_toArray, hl] at *
        by_cases h1 : po < n
        · rw [List.append_assoc, List.getElem?_append_left (by simp; omega), List.getElem?_take_of_lt h1]
          exact hcl
        · by_cases h2 : po < n + m
          · rw [List.getElem?_append_left (by simp [bv]; omega), List.getElem?_append_right (by simp; omega)]
            have e : (List.take n cur.toList).length = n := by simp; omega
            rw [e]
            simp [bv, List.getElem?_replicate]
            omega
          · rw [List.getElem?_append_right (by simp [bv]; omega), List.getElem?_drop]
            have e : n + m + (po - (List.take n cur.toList ++ bv (List.replicate m mk)).length) = po := by simp [bv]; omega
            rw [e]
            exact hcl
      · rw [cell_setRow_other w g _ ⟨pb, po, none⟩ hb]
        exact hc
    · have holds : ∀ j u, (bv xs)[j]? = some u → w.cell? ((⟨g, 0, none⟩ : Addr).add j) = some u := hown.2.cells (g := g) rfl
      have hr2 := run_append_grow (P := Try.prog) w 43 ty 5 i0 (.int .u8 0) und_bytes hi hz0 ⟨g, 0, none⟩ n cap (bv xs) (by rw [hz1, bv_length, ← hown.1]; omega) holds ad m c _ (by rw [hz1]; exact hl) hnews (by omega) (by omega) (by rw [hz2]; exact growslice_fits (by omega) (by omega))
      rw [hr] at hr2
      injection hr2 with e1 e2
      rw [e2]
      exact Keeps.below (((Below.refl w.heap.size w).drew).alloc (Nat.le_refl _) _)

theorem wpList_append_mark {w : World} {ops : Array Oper} {rest : List Oper} {o : Oper} {a : Act} {Q : Exit → Act → World → Prop} (hgd : o.guard = none) (s x : Operand)
    (ho : o.op = .call { callee := .builtin .append, args := #[s, x], argTypes := #[43, 43] })
    (B : Nat) (a0 : Option Addr) (m0 c0 mk : Nat) (acc : List Nat) (hs : a.eval s = .slice a0 m0 c0) (hown : Own w B (.slice a0 m0 c0) m0 acc)
    (vs : List Value) (m : Nat) (hx : a.eval x = .slice (some ⟨w.heap.size, 0, none⟩) m m) (hvs : vs = bv (List.replicate m mk)) (hp : 0 < m)
    (hbytes : m0 + m ≤ 140737488355328) (hB : B ≤ w.heap.size)
    (h : ∀ a' m' c' w', Hid (m' = m0 + m) → Own w' B (.slice a' m' c') m' (acc ++ List.replicate m mk) → w.grownBy w' (Value.slice a0 m0 c0).ownBlock → Own w' B (.slice a0 m0 c0) m0 acc → ((Value.slice a' m' c').ownBlock = (Value.slice a0 m0 c0).ownBlock ∨ ∀ g, (Value.slice a' m' c').ownBlock = some g → w.heap.size ≤ g) → Keeps mk w w' → wpList Try.prog ops Q rest (a.put o.dst (.slice a' m' c')) w') : wpList Try.prog ops Q (o :: rest) a (w.alloc (.cells vs.toArray 5)) := by
  subst hvs
  have ho2 : Own (w.alloc (.cells (bv (List.replicate m mk)).toArray 5)) B (.slice a0 m0 c0) m0 acc := ⟨hown.1, hown.2.alloc _⟩
  obtain ⟨v', w', hr, h1, h2, h3, h4⟩ := append_keep (w := w.alloc (.cells (bv (List.replicate m mk)).toArray 5)) (B := B) (c := m) (bs := List.replicate m mk) o.type ho2 ⟨w.heap.size, 0, none⟩ (by simp) (news_new _ _ _) hp hbytes (by simp; omega)
  have hk := append_marks o.type ho2 ⟨w.heap.size, 0, none⟩ (news_new _ _ _) hp hbytes hr
  obtain ⟨a', c', rfl⟩ := own_form h1.2
  refine wpList_plain hgd fun K hK => ?_
  unfold Oper.wp execOp
  simp only [ho, resolve, invoke, builtin, Sem.run_bind, Sem.run_pure, Result.andThen_ok, List.map_toArray, List.map_cons, List.map_nil, hs, hx, hr]
  refine hK _ _ (h a' _ c' w' (by unfold Hid; rfl) h1 (grown_trans (grown_alloc w _ _) h2 (.inl rfl)) h3 ?_ ((Keeps.alloc mk w _).trans hk))
  rcases h4 with h4 | h4
  · exact .inl h4
  · refine .inr fun g hg => ?_
    rw [h4] at hg
    simp at hg
    omega

end Go.Proofs.Ythhkpkfpifllkaa

namespace Go.Proofs.Ythhkpkfpifllkaa
open Go.RowKit
set_option linter.unusedVariables false

def Near (w : World) (l u : Value) : Prop := u.ownBlock = l.ownBlock ∨ ∀ g, u.ownBlock = some g → w.heap.size ≤ g
theorem Near.on {w w' : World} {l u v : Value} (h : Near w l u) (k : v.ownBlock = u.ownBlock ∨ ∀ g, v.ownBlock = some g → w'.heap.size ≤ g) (hs : w.heap.size ≤ w'.heap.size) : Near w l v := by
  rcases k with k | k
  · rcases h with h | h
    · exact .inl (k.trans h)
    · exact .inr fun g hg => h g (by rw [← k]; exact hg)
  · exact .inr fun g hg => Nat.le_trans hs (k g hg)
theorem Near.grow {w : World} {l u : Value} (h : Near w l u) : u.ownBlock = l.ownBlock ∨ ∀ g, u.ownBlock = some g → w.heap.size ≤ g := h

def Marked (w w' : World) (l : Value) (G mk : Nat) : Prop := w.heap.size ≤ G ∧ ∀ i, i < 4 → ∃ ai ki ci, w'.cell? ⟨G, i, none⟩ = some (.slice ai ki ci) ∧ Rd w' (.slice ai ki ci) (List.replicate ki mk) ∧ Near w l (.slice ai ki ci)

theorem bv_at (L : List Nat) (t : Nat) (h : t < L.length) : (bv L)[t]? = some (.int .u8 ((L.getD t 0 : Nat) : Int)) := by
  simp [bv, List.getD, List.getElem?_eq_getElem h]
theorem fill_set {mk t : Nat} {xs : List Nat} (h : t < xs.length) : (List.replicate t mk ++ xs.drop t).set t mk = List.replicate (t + 1) mk ++ xs.drop (t + 1) := by
  rw [List.set_append_right _ _ (by simp), drop_cons xs t h]
  simp [List.replicate_succ']

def FullL (w : World) (G mk : Nat) : Prop := ∀ i, i < 4 → ∃ ai ki ci, w.cell? ⟨G, i, none⟩ = some (.slice ai ki ci) ∧ Rd w (.slice ai ki ci) (List.replicate ki mk)
theorem FullL.later {w w' : World} {G mk : Nat} (h : FullL w G mk) (hb : Below w.heap.size w w') : FullL w' G mk := fun i hi => by
  obtain ⟨a, k, c, h1, h2⟩ := h i hi
  exact ⟨a, k, c, by rw [hb.cell (p := ⟨G, i, none⟩) (World.block_lt_of_cell? w _ h1)]; exact h1, h2.later hb⟩

end Go.Proofs.Ythhkpkfpifllkaa

namespace Go.Proofs.Ythhkpkfpifllkaa
open Go.RowKit
set_option linter.unusedVariables false

theorem Own.far {w w' : World} {B m : Nat} {v : Value} {o : Option Nat} {xs : List Nat} (h : Own w B v m xs) (k : w.grownBy w' o) (hne : ∀ g, o = some g → v.ownBlock ≠ some g) : Own w' B v m xs := by
  refine ⟨h.1, h.2.1, ?_⟩
  rcases h.2.2 with h2 | ⟨g, cap, cur, h3, h4, h5, h6⟩
  · exact .inl h2
  · refine .inr ⟨g, cap, cur, h3, h4, ?_, h6⟩
    rw [k.block g (Array.getElem?_eq_some_iff.1 h5).1 ?_]
    · exact h5
    · intro e
      exact hne g e.symm (by rw [h3]; rfl)
theorem Laid.far {w w' : World} {B : Nat} {u : Value} {o : Option Nat} {bs : List Nat} (h : Laid w B u bs) (k : w.grownBy w' o) (hne : ∀ g, o = some g → u.ownBlock ≠ some g) : Laid w' B u bs := by
  obtain ⟨g, c, rfl, h2, h3, h4⟩ := h
  exact ⟨g, c, rfl, h2, h3, h4.far k (fun x hx => hne x hx)⟩
theorem Marked.full {w0 w : World} {l : Value} {G mk : Nat} (h : Marked w0 w l G mk) : FullL w G mk := fun i hi => by
  obtain ⟨a, k, c, h1, h2, _⟩ := h.2 i hi
  exact ⟨a, k, c, h1, h2⟩
theorem Marked.far {w0 w w' : World} {l : Value} {G mk : Nat} {o : Option Nat} (h : Marked w0 w l G mk) (k : w.grownBy w' o) (ho : ∀ g, o = some g → g < w0.heap.size ∧ l.ownBlock ≠ some g) : FullL w' G mk := fun i hi => by
  obtain ⟨a, kk, c, h1, h2, h3⟩ := h.2 i hi
  refine ⟨a, kk, c, ?_, ?_⟩
  · refine k.cell h1 ?_
    intro e
    have := (ho G e.symm).1
    have := h.1
    omega
  · obtain ⟨q1, a', cap, q2, q3, q4, q5, q6, q7⟩ := h2
    refine ⟨q1, a', cap, q2, q3, q4, q5, q6, ?_⟩
    rcases q7 with q7 | ⟨b, off, rfl, hc⟩
    · exact .inl q7
    · refine .inr ⟨b, off, rfl, fun j hj => k.cell (hc j hj) ?_⟩
      intro e
      obtain ⟨e1, e2⟩ := ho b e.symm
      simp only [Value.slice.injEq] at q2
      rw [q2.1] at h3
      rcases h3 with h3 | h3
      · exact e2 (by rw [← h3]; rfl)
      · have := h3 b rfl
        omega
theorem below_grows {w wt w' : World} {v : Value} {B n : Nat} {xs : List Nat} (hb : Below w.heap.size w wt) (ho : Own wt B v n xs) (hB : w.heap.size ≤ B) (k : wt.grownBy w' v.ownBlock) : Below w.heap.size w w' :=
  hb.grown k hb.size (fun g hg => Nat.le_trans hB (ho.2.lt g hg).1)

open Classical in
noncomputable def startL (r : List Nat) : List Nat := if RowOk r then ordL r else []
open Classical in
noncomputable def behindL (r : List Nat) : List Nat := if RowOk r then ordL r ++ [255] else []
open Classical in
noncomputable def rowE (r : List Nat) : Nat := if RowOk r then 0 else 20
theorem startL_ok (r : List Nat) (h : Bys r) : Bys (startL r) ∧ (startL r).length ≤ 520 := by
  unfold startL
  split
  · rename_i k
    exact ⟨ordL_bys r h, by have := rowOk_ord k; omega⟩
  · exact ⟨by intro x hx; simp at hx, by simp⟩
theorem behindL_ok (r : List Nat) (h : Bys r) : Bys (behindL r) ∧ (behindL r).length ≤ 520 := by
  unfold behindL
  split
  · rename_i k
    exact ⟨Bys.app (ordL_bys r h) (fun x hx => by simp at hx; omega), by have := rowOk_ord k; simp; omega⟩
  · exact ⟨by intro x hx; simp at hx, by simp⟩
theorem keyL_pos (e : EntD) : 1 ≤ (keyL e).length := by rw [keyL_parts]; simp; omega

end Go.Proofs.Ythhkpkfpifllkaa

namespace Go.Proofs.Ythhkpkfpifllkaa
open Go.RowKit
set_option linter.unusedVariables false

theorem firstNZ_zero : ∀ (l : List Int), firstNZ l = 0 → ∀ x ∈ l, x = 0
  | [], _ => fun x hx => by simp at hx
  | y :: r, h => fun x hx => by
    unfold firstNZ at h
    by_cases hy : y = 0
    · rw [if_pos hy] at h
      rcases List.mem_cons.1 hx with rfl | hx
      · exact hy
      · exact firstNZ_zero r h x hx
    · rw [if_neg hy] at h
      exact absurd h hy
theorem cmpI_zero {a b : Int} (h : cmpI a b = 0) : a = b := by
  unfold cmpI at h
  split at h
  · cases h
  · split at h
    · cases h
    · omega
theorem dif_self {xs : List Nat} {c : Int} (h : Dif xs xs c) : c = 0 := by
  rcases h with ⟨h, _⟩ | ⟨_, p, x, y, r, s, e1, e2, hx⟩ | ⟨_, p, x, y, r, s, e1, e2, hx⟩
  · exact h
  · rw [e1] at e2
    have := List.append_cancel_left e2
    simp at this
    omega
  · rw [e1] at e2
    have := List.append_cancel_left e2
    simp at this
    omega
theorem key_same {a b : EntD} (ha : checkS a = 0) (hb : checkS b = 0) (h : keyL a = keyL b) : a.fam = b.fam ∧ a.ts = b.ts ∧ a.seq = b.seq ∧ a.kind = b.kind ∧ a.row = b.row ∧ a.qual = b.qual := by
  have d := key_dif ha hb
  rw [h] at d
  have z := firstNZ_zero _ (dif_self d)
  refine ⟨cmpI_zero (z _ ?_), (cmpI_zero (z (cmpI b.ts a.ts) ?_)).symm, (cmpI_zero (z (cmpI b.seq a.seq) ?_)).symm, cmpI_zero (z _ ?_), ordC_eq _ _ (z _ ?_), ordC_eq _ _ (z _ ?_)⟩ <;> simp [cmpsS]
theorem keyL_len2 {e : EntD} (hc : checkS e = 0) : (keyL e).length ≤ 1048 := by
  obtain ⟨f1, f, f3, _, t, s, k, _⟩ := check_facts hc
  rw [keyL_parts]
  have l1 := ordL_len e.row
  have l2 := ordL_len e.qual
  have c1 : e.row.count 0 ≤ e.row.length := List.count_le_length
  have c2 : e.qual.count 0 ≤ e.qual.length := List.count_le_length
  split <;> simp [be8] <;> omega
theorem pack_trip {e : EntD} (hc : checkS e = 0) (A H : List Nat) : bytesR ((A ++ packL e) ++ H) A.length 1048 = (keyL e, A.length + (bytesL (keyL e)).length, 0) ∧ bytesR ((A ++ packL e) ++ H) (A.length + (bytesL (keyL e)).length) 4096 = (e.val, A.length + (packL e).length, 0) := by
  have l1 := keyL_len2 hc
  have l2 := (check_facts hc).2.2.2.2.2.2.2.1
  constructor
  · have := bytes_trip (keyL e) (by omega) 1048 l1 A (bytesL e.val ++ H)
    have e1 : (A ++ packL e) ++ H = A ++ (bytesL (keyL e) ++ (bytesL e.val ++ H)) := by simp [packL]
    rw [e1]; exact this
  · have := bytes_trip e.val (by omega) 4096 l2 (A ++ bytesL (keyL e)) H
    have e1 : (A ++ packL e) ++ H = (A ++ bytesL (keyL e)) ++ (bytesL e.val ++ H) := by simp [packL]
    rw [e1]
    simp only [List.length_append] at this ⊢
    rw [this]
    simp [packL]
    omega
theorem packL_len6 {e : EntD} (hc : checkS e = 0) : (packL e).length ≤ 6000 := by
  have l1 := keyL_len2 hc
  have l2 := (check_facts hc).2.2.2.2.2.2.2.1
  have := bytesL_le (keyL e)
  have := bytesL_le e.val
  simp only [packL, List.length_append]
  omega
theorem packL_bys {e : EntD} (hr : Bys e.row) (hq : Bys e.qual) (hv : Bys e.val) (hc : checkS e = 0) : Bys (packL e) := by
  have l1 := keyL_len2 hc
  have l2 := (check_facts hc).2.2.2.2.2.2.2.1
  exact Bys.app (bytesL_bys (keyL_bys hr hq hc) (by omega)) (bytesL_bys hv (by omega))

end Go.Proofs.Ythhkpkfpifllkaa

namespace Go.Proofs.Ythhkpkfpifllkaa
open Go.RowKit
set_option linter.unusedVariables false

def LaidE (w : World) (B : Nat) (D : EntD) : Prop := Laid w B D.vr D.row ∧ Laid w B D.vq D.qual ∧ Laid w B D.vv D.val
theorem LaidE.later {w w' : World} {B : Nat} {D : EntD} (h : LaidE w B D) (hb : Below w.heap.size w w') : LaidE w' B D := ⟨h.1.later hb, h.2.1.later hb, h.2.2.later hb⟩
theorem Laid.mono {w : World} {B B' : Nat} {u : Value} {bs : List Nat} (h : Laid w B u bs) (hB : B' ≤ B) : Laid w B' u bs := by
  obtain ⟨g, c, h1, h2, h3, h4⟩ := h
  exact ⟨g, c, h1, h2, h3, h4.mono hB⟩
theorem LaidE.mono {w : World} {B B' : Nat} {D : EntD} (h : LaidE w B D) (hB : B' ≤ B) : LaidE w B' D := ⟨h.1.mono hB, h.2.1.mono hB, h.2.2.mono hB⟩
def EntD.cut (e : EntD) : EntD := { e with row := e.row.take 5000, qual := e.qual.take 5000, val := e.val.take 5000 }
def EntD.Fine (e : EntD) : Prop := (Bys e.row ∧ e.row.length ≤ 5000) ∧ (Bys e.qual ∧ e.qual.length ≤ 5000) ∧ (Bys e.val ∧ e.val.length ≤ 5000)
theorem EntD.cut_fine {w : World} {e : EntD} (h : EntD.Ok w e) : EntD.Fine e.cut :=
  ⟨⟨fun x hx => h.1.1 x (List.mem_of_mem_take hx), by simp [EntD.cut]; omega⟩, ⟨fun x hx => h.2.1.1 x (List.mem_of_mem_take hx), by simp [EntD.cut]; omega⟩, ⟨fun x hx => h.2.2.1 x (List.mem_of_mem_take hx), by simp [EntD.cut]; omega⟩⟩
theorem EntD.Fine.same {a b : EntD} (h : EntD.Fine b) (s : EntD.Same a b) : EntD.Fine a := by
  unfold EntD.Fine at *
  rw [s.2.2.2.2.1, s.2.2.2.2.2.1, s.2.2.2.2.2.2]; exact h
theorem LaidE.ok {w : World} {B : Nat} {D : EntD} (h : LaidE w B D) (k : EntD.Fine D) : EntD.Ok w D := ⟨h.1.rd k.1.1 (by have := k.1.2; omega), h.2.1.rd k.2.1.1 (by have := k.2.1.2; omega), h.2.2.rd k.2.2.1 (by have := k.2.2.2; omega)⟩
theorem check_same {a b : EntD} (s : EntD.Same a b) : checkS a = checkS b := by
  obtain ⟨h1, h2, h3, h4, h5, h6, h7⟩ := s
  unfold checkS; rw [h1, h2, h3, h4, h5, h6, h7]
theorem keyL_same {a b : EntD} (s : EntD.Same a b) : keyL a = keyL b := by
  obtain ⟨h1, h2, h3, h4, h5, h6, h7⟩ := s
  unfold keyL; rw [h1, h2, h3, h4, h5, h6]
theorem packL_same {a b : EntD} (s : EntD.Same a b) : packL a = packL b := by
  unfold packL; rw [keyL_same s, s.2.2.2.2.2.2]

open Classical in
noncomputable def keyA (e : EntD) : List Nat := if checkS e = 0 then keyL e else []
open Classical in
noncomputable def packA (e : EntD) : List Nat := if checkS e = 0 then packL e else []
theorem keyA_same {a b : EntD} (s : EntD.Same a b) : keyA a = keyA b := by unfold keyA; rw [check_same s, keyL_same s]
theorem packA_same {a b : EntD} (s : EntD.Same a b) : packA a = packA b := by unfold packA; rw [check_same s, packL_same s]
theorem keyA_ok {e : EntD} (h : EntD.Fine e) : Bys (keyA e) ∧ (keyA e).length ≤ 6000 := by
  unfold keyA
  split
  · rename_i k
    exact ⟨keyL_bys h.1.1 h.2.1.1 k, by have := keyL_len2 k; omega⟩
  · exact ⟨by intro x hx; simp at hx, by simp⟩
theorem packA_ok {e : EntD} (h : EntD.Fine e) : Bys (packA e) ∧ (packA e).length ≤ 6000 := by
  unfold packA
  split
  · rename_i k
    exact ⟨packL_bys h.1.1 h.2.1.1 h.2.2.1 k, packL_len6 k⟩
  · exact ⟨by intro x hx; simp at hx, by simp⟩
theorem Laid.put {w : World} {B g i : Nat} {u x : Value} {bs : List Nat} (h : Laid w B u bs) (hg : g < B) : Laid (w.setCell ⟨g, i, none⟩ x) B u bs := by
  obtain ⟨g2, c, h1, h2, h3, h4⟩ := h
  refine ⟨g2, c, h1, h2, h3, h4.1, h4.2.1, ?_⟩
  rcases h4.2.2 with h5 | ⟨g3, cap, cur, h5, h6, h7, h8⟩
  · exact .inl h5
  · refine .inr ⟨g3, cap, cur, h5, h6, ?_, h8⟩
    rw [Below.heap_setCell w ⟨g, i, none⟩ x g3 (by simp; omega)]
    exact h7
theorem Laid.form {w : World} {B : Nat} {u : Value} {bs : List Nat} (h : Laid w B u bs) : ∃ a n c, u = .slice a n c := by
  obtain ⟨g, c, h1, _⟩ := h
  exact ⟨_, _, _, h1⟩
theorem Laid.fill {w : World} {B g : Nat} {u : Value} {bs : List Nat} {D : EntD} (h : Laid w B u bs) (hg : g < B) : Laid (filled w g D) B u bs :=
  (((((((h.put hg).put hg).put hg).put hg).put hg).put hg).put hg)

end Go.Proofs.Ythhkpkfpifllkaa

namespace Go.Proofs.Ythhkpkfpifllkaa
open Go.RowKit Go.Maps
set_option linter.unusedVariables false

def pushR (k : Nat) (last : EntD) (has : Bool) (e : EntD) : Int := if check3S k e ≠ 0 then check3S k e else if has = false then 0 else if 0 < compareS last e then 30 else if ¬ EntD.Same last e ∧ (compareS last e = 0 ∨ last.seq = e.seq) then 31 else 0
theorem seq_of_zero {a b : EntD} (h : compareS a b = 0) : a.seq = b.seq := by
  have q : sameS a { b with val := a.val } = true := by
    unfold sameS
    show (decide (compareS a b = 0) && decide (a.val = a.val)) = true
    simp [h]
  exact congrArg En.seq (sameS_dat q)
theorem sameS_iff {a b : EntD} : sameS a b = true ↔ EntD.Same b a := ⟨fun h => EntD.dat_same.1 (sameS_dat h).symm, fun h => sameS_of (EntD.dat_same.2 h).symm⟩
theorem pushR_is (k : Nat) (s : SpD) (e : EntD) : pushR k s.last s.begun e = pushE k s e := by
  unfold pushR pushE
  by_cases h : check3S k e ≠ 0
  · rw [if_pos h, if_pos h]
  · rw [if_neg h, if_neg h]
    cases hb : s.begun with
    | false => simp
    | true =>
      rw [if_neg (by decide), if_pos rfl]
      have sw := compareS_swap s.last e
      by_cases hp : 0 < compareS s.last e
      · have q : compareS e s.last < 0 := by omega
        rw [if_pos hp, if_pos q]
      · have q : ¬ compareS e s.last < 0 := by omega
        rw [if_neg hp, if_neg q]
        by_cases hs : sameS e s.last = true
        · have q2 : ¬ (¬ EntD.Same s.last e ∧ (compareS s.last e = 0 ∨ s.last.seq = e.seq)) := fun z => z.1 (sameS_iff.1 hs)
          rw [if_pos hs, if_neg q2]
        · rw [if_neg hs]
          by_cases hq : e.seq = s.last.seq
          · have q2 : ¬ EntD.Same s.last e ∧ (compareS s.last e = 0 ∨ s.last.seq = e.seq) := ⟨fun z => hs (sameS_iff.2 z), .inr hq.symm⟩
            rw [if_pos hq, if_pos q2]
          · have q2 : ¬ (¬ EntD.Same s.last e ∧ (compareS s.last e = 0 ∨ s.last.seq = e.seq)) := fun z => z.2.elim (fun z => hq (seq_of_zero z).symm) (fun z => hq z.symm)
            rw [if_neg hq, if_neg q2]
theorem box_push (w : World) (fa : Option Addr) (K fc : Nat) (a b : EntD) : ∃ W, W = ((w.alloc (.cells #[.slice fa K fc] 24)).alloc (.cells a.cells 45)).alloc (.cells b.cells 45) ∧ Below w.heap.size w W ∧ (∀ Z, Below W.heap.size W Z → Z.cell? ⟨w.heap.size, 0, none⟩ = some (.slice fa K fc) ∧ EBox Z (w.heap.size + 1) a ∧ EBox Z (w.heap.size + 1 + 1) b) := by
  obtain ⟨X0, hX0, A1, hc⟩ := sch_box w fa K fc
  obtain ⟨W, hW, A2, hb⟩ := box2 X0 a b
  have sz : X0.heap.size = w.heap.size + 1 := by rw [hX0]; simp
  refine ⟨W, by rw [hW, hX0], A1.trans (A2.mono A1.size), fun Z k => ⟨hc Z (A2.trans (k.mono A2.size)), ?_⟩⟩
  have := hb Z k
  rw [sz] at this
  exact this
end Go.Proofs.Ythhkpkfpifllkaa
