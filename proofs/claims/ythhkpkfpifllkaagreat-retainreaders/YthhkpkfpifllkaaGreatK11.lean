import Derived.Test.YthhkpkfpifllkaaGreatK10
namespace Go.Proofs.YthhkpkfpifllkaaGreat
open Go.RowKit
set_option linter.unusedVariables false

theorem maskOf_snoc (p : List En) (x e : En) : maskOf (p ++ [x]) e = if cover x e then max (maskOf p e) x.ts else maskOf p e := by
  have nn := maskOf_nn p e
  induction p with
  | nil => simp only [List.nil_append, maskOf_cons]; unfold maskOf; simp only [List.foldr_nil]; split <;> omega
  | cons y p ih =>
    rw [List.cons_append, maskOf_cons, maskOf_cons, ih (maskOf_nn p e)]
    repeat' split
    all_goals omega
def gv (x e : En) : Bool := decide (x.kind ≤ 3) && decide (x.ts = e.ts) && mates x e
theorem gv_gp {x e : En} (h3 : e.kind ≤ 3) : gv x e = gpE x e := by
  rw [Bool.eq_iff_iff, gpE_iff]
  unfold gv
  simp only [Bool.and_eq_true, decide_eq_true_eq, mates_iff]
  exact ⟨fun ⟨⟨a, b⟩, c⟩ => ⟨a, h3, c.1, c.2.1, c.2.2, b⟩, fun ⟨a, _, b, c, d, e⟩ => ⟨⟨a, e⟩, b, c, d⟩⟩
def gputs (m : List En) (e : En) : Nat := (m.filter fun x => gv x e && decide (x.kind ≠ 3)).length
theorem gputs_snoc (p : List En) (x e : En) : gputs (p ++ [x]) e = if gv x e = true ∧ x.kind ≠ 3 then gputs p e + 1 else gputs p e := by
  unfold gputs
  rw [List.filter_append, List.length_append]
  by_cases h : gv x e = true ∧ x.kind ≠ 3
  · rw [if_pos h]; simp [h.1, h.2]
  · rw [if_neg h]
    have : (gv x e && decide (x.kind ≠ 3)) = false := by
      cases g : gv x e with
      | false => rfl
      | true => simp only [Bool.true_and, decide_eq_false_iff_not]; exact fun z => h ⟨g, z⟩
    simp only [List.filter_cons, this, List.filter_nil]
    simp
theorem gputs_pos {m : List En} {e : En} (h3 : e.kind ≤ 3) : 0 < gputs m e ↔ hasPut m e = true := by
  unfold gputs
  rw [List.length_pos_iff_exists_mem, hasPut_iff]
  constructor
  · rintro ⟨x, hx⟩
    obtain ⟨a, b⟩ := List.mem_filter.1 hx
    simp only [Bool.and_eq_true, decide_eq_true_eq] at b
    exact ⟨x, a, by rw [← gv_gp h3]; exact b.1, b.2⟩
  · rintro ⟨x, hx, g, k⟩
    exact ⟨x, List.mem_filter.2 ⟨hx, by simp only [Bool.and_eq_true, decide_eq_true_eq]; exact ⟨by rw [gv_gp h3]; exact g, k⟩⟩⟩
structure Bst (p : List En) (e b : En) : Prop where
  at_ : b = e ∨ (b ∈ p ∧ gv b e = true)
  low : e.seq ≤ b.seq
  all : ∀ x ∈ p, gv x e = true → x.seq ≤ b.seq
theorem Bst.nil (e : En) : Bst [] e e := ⟨.inl rfl, Int.le_refl _, fun x hx => by cases hx⟩
theorem Bst.keep {p : List En} {e b x : En} (h : Bst p e b) (hx : gv x e = true → x.seq ≤ b.seq) : Bst (p ++ [x]) e b := by
  refine ⟨?_, h.low, fun y hy g => ?_⟩
  · rcases h.at_ with z | ⟨z, g⟩
    · exact .inl z
    · exact .inr ⟨List.mem_append_left _ z, g⟩
  · rcases List.mem_append.1 hy with q | q
    · exact h.all y q g
    · rw [List.mem_singleton] at q
      subst q
      exact hx g
theorem Bst.next {p : List En} {e b x : En} (h : Bst p e b) (g : gv x e = true) (hx : b.seq < x.seq) : Bst (p ++ [x]) e x := by
  refine ⟨.inr ⟨by simp, g⟩, by have := h.low; omega, fun y hy gy => ?_⟩
  rcases List.mem_append.1 hy with q | q
  · have := h.all y q gy; omega
  · rw [List.mem_singleton] at q
    subst q
    exact Int.le_refl _
def gkind (b : En) (n : Nat) : Int := if b.kind = 3 then (if 0 < n then 2 else 0) else b.kind
theorem Bst.dec {m : List En} {e b : En} (h : Bst m e b) (h3 : e.kind ≤ 3) (he : e ∈ m) : (b.seq == e.seq) = decidesS m e := by
  rw [Bool.eq_iff_iff, beq_iff_eq, decides_iff]
  constructor
  · intro z x hx g
    have := h.all x hx (by rw [gv_gp h3]; exact g)
    omega
  · intro z
    have hl := h.low
    rcases h.at_ with q | ⟨q, g⟩
    · rw [q]
    · have := z b q (by rw [← gv_gp h3]; exact g)
      omega
theorem Bst.mem {m : List En} {e b : En} (h : Bst m e b) (he : e ∈ m) (h3 : e.kind ≤ 3) : b ∈ m ∧ gpE b e = true := by
  rcases h.at_ with q | ⟨q, g⟩
  · subst q; exact ⟨he, gpE_self h3⟩
  · exact ⟨q, by rw [← gv_gp h3]; exact g⟩
theorem Bst.zero {m : List En} {e b : En} (h : Bst m e b) (hv : ∀ e ∈ m, Va e) (h3 : e.kind ≤ 3) (he : e ∈ m) : gkind b (gputs m e) = 0 ↔ hasPut m e = false := by
  obtain ⟨bm, g⟩ := h.mem he h3
  have k1 := (hv b bm).k1
  unfold gkind
  cases hp : hasPut m e with
  | true =>
    have := (gputs_pos h3).2 hp
    split
    · simp
    · simp; omega
  | false =>
    have n0 : ¬ 0 < gputs m e := fun z => by rw [(gputs_pos h3).1 z] at hp; cases hp
    have b3 : b.kind = 3 := by
      by_cases z : b.kind = 3
      · exact z
      · rw [hasPut_iff.2 ⟨b, bm, g, z⟩] at hp; cases hp
    simp [b3, n0]
theorem Bst.kind {m : List En} {e b : En} (h : Bst m e b) (hn : m.Pairwise fun a b => a.seq ≠ b.seq) (hv : ∀ e ∈ m, Va e) (h3 : e.kind ≤ 3) (he : e ∈ m) (hd : decidesS m e = true) (hp : hasPut m e = true) (pe : ∀ {x y : En}, x ∈ m → y ∈ m → x.seq = y.seq → x = y) : gkind b (gputs m e) = (hk e).kind := by
  have hs : b.seq = e.seq := by have := h.dec h3 he; rw [hd] at this; simpa using this
  obtain ⟨bm, g⟩ := h.mem he h3
  have e1 := pe bm he hs
  subst e1
  have n0 := (gputs_pos h3).2 hp
  unfold gkind hk
  by_cases z : b.kind = 3
  · simp [z, n0]
  · simp [z]
section
variable {fs : List (Int × Int)} {clock : Int}
def ranks (fs : List (Int × Int)) (clock : Int) (m : List En) (e x : En) : Bool := decide (x.kind ≤ 3) && decide (e.ts < x.ts) && mates x e && hasPut m x && decidesS m x && (decide (maskOf m x < x.ts) && !expS fs clock x)
theorem ranks_above {m : List En} {e : En} : ((m.filter (ranks fs clock m e)).length : Int) = above fs clock m e := by
  unfold above
  congr 2
  apply List.filter_congr
  intro x hx
  rw [Bool.eq_iff_iff]
  unfold ranks
  simp only [Bool.and_eq_true, decide_eq_true_eq, Bool.not_eq_true', counts_put hx]
  constructor
  · rintro ⟨⟨⟨⟨⟨a, b⟩, c⟩, d⟩, f⟩, g, h⟩
    exact ⟨⟨⟨a, f, d, g, h⟩, c⟩, b⟩
  · rintro ⟨⟨⟨a, f, d, g, h⟩, c⟩, b⟩
    exact ⟨⟨⟨⟨⟨a, b⟩, c⟩, d⟩, f⟩, g, h⟩
def visB (fs : List (Int × Int)) (clock : Int) (m : List En) (x : En) : Bool := decide (x.kind = 1) && (decidesS m x && (decide (maskOf m x < x.ts) && !expS fs clock x) && decide (above fs clock m x + 1 ≤ (famAt fs x.fam).1))
theorem visB_five {m : List En} {x : En} (hx : x ∈ m) : visB fs clock m x = (decide (x.kind = 1) && decide ((sv fs clock m x).fate = 5)) := by
  rw [Bool.eq_iff_iff]
  unfold visB
  simp only [Bool.and_eq_true, decide_eq_true_eq, Bool.not_eq_true', five_iff hx]
  constructor
  · rintro ⟨k, ⟨d, a, b⟩, r⟩
    exact ⟨k, by omega, d, hasPut_iff.2 ⟨x, hx, gpE_self (by omega), by omega⟩, a, b, r⟩
  · rintro ⟨k, _, d, _, a, b, r⟩
    exact ⟨k, ⟨d, a, b⟩, r⟩
theorem five_put {m : List En} {x : En} (hx : x ∈ m) (h : (sv fs clock m x).fate = 5) : (tld m x).kind = 1 ↔ x.kind = 1 := by
  obtain ⟨h3, hd, hp, _⟩ := (five_iff hx).1 h
  rw [tld_hk h3 hd hp]
  have := (hk_eq x).2.2.2.2.2.2
  omega
theorem vis_five (m : List En) : m.filter (visB fs clock m) = (fiveL fs clock m).filter (fun e => decide (e.kind = 1)) := by
  unfold fiveL
  rw [List.filter_map, List.filter_filter]
  have e1 : m.filter (visB fs clock m) = m.filter fun x => ((fun e => decide (e.kind = 1)) ∘ tld m) x && decide ((sv fs clock m x).fate = 5) := by
    apply List.filter_congr
    intro x hx
    rw [visB_five hx]
    cases h : decide ((sv fs clock m x).fate = 5) with
    | false => simp
    | true =>
      have := five_put hx (of_decide_eq_true h)
      simp only [Bool.and_true, Function.comp]
      rw [Bool.eq_iff_iff, decide_eq_true_eq, decide_eq_true_eq]
      exact this.symm
  rw [e1]
  have e2 : ∀ x ∈ m.filter (fun x => ((fun e => decide (e.kind = 1)) ∘ tld m) x && decide ((sv fs clock m x).fate = 5)), tld m x = x := fun x hx => by
    obtain ⟨xm, hx⟩ := List.mem_filter.1 hx
    simp only [Bool.and_eq_true, decide_eq_true_eq, Function.comp] at hx
    obtain ⟨h3, hd, hp, _⟩ := (five_iff xm).1 hx.2
    have k := (five_put xm hx.2).1 hx.1
    rw [tld_hk h3 hd hp]
    unfold hk
    rw [if_neg (by omega)]
  conv => lhs; rw [← List.map_id (m.filter _)]
  exact List.map_congr_left (fun x hx => (e2 x hx).symm)
theorem mates_same {l e : En} (h : mates l e = true) (y : En) : mates y l = mates y e := by
  have a := mates_iff.1 h
  simp only [mates, a.1, a.2.1, a.2.2]
theorem five_dist {m : List En} (hs : m.Pairwise Ah) : ∀ x ∈ fiveL fs clock m, ∀ y ∈ fiveL fs clock m, mates x y = true → x.ts = y.ts → x = y := fun x hx y hy M t => by
  obtain ⟨a, am, ha, rfl⟩ := five_mem.1 hx
  obtain ⟨b, bm, hb, rfl⟩ := five_mem.1 hy
  obtain ⟨a1, a2, a3, a4, _⟩ := hk_eq a
  obtain ⟨b1, b2, b3, b4, _⟩ := hk_eq b
  have M := mates_iff.1 M
  have := one_decides hs am bm (gpE_iff.2 ⟨ha.1, hb.1, by rw [← a1, M.1, b1], by rw [← a2, M.2.1, b2], by rw [← a3, M.2.2, b3], by rw [← a4, t, b4]⟩) ha.2.1 hb.2.1
  rw [this]
theorem five_three {m : List En} : ∀ x ∈ fiveL fs clock m, x.kind ≤ 3 := fun x hx => by
  obtain ⟨a, am, ha, rfl⟩ := five_mem.1 hx
  have := (hk_eq a).2.2.2.2.2.2
  have := ha.1
  omega
def topR (fs : List (Int × Int)) (clock : Int) (m p : List En) : Int := p.foldl (fun t x => if (x.kind ≤ 3 ∧ hasPut m x = true ∧ maskOf m x < x.ts ∧ expS fs clock x = false) ∧ t < x.ts then x.ts else t) 0
def fateR (fs : List (Int × Int)) (clock : Int) (major : Bool) (low : Int) (m : List En) (e : En) : Option En :=
  if 4 ≤ e.kind then (if shadow m e || (major && decide (e.ts ≤ low)) then none else some e)
  else if decidesS m e = false then none
  else if e.ts ≤ maskOf m e then none
  else if expS fs clock e then none
  else if hasPut m e = false then (if major then none else some e)
  else if (famAt fs e.fam).1 < above fs clock m e + 1 then none
  else some (hk e)
end
end Go.Proofs.YthhkpkfpifllkaaGreat

namespace Go.Proofs.YthhkpkfpifllkaaGreat
open Go.RowKit
set_option linter.unusedVariables false

section
variable {fs : List (Int × Int)} {clock : Int}
def readR (t n : Int) (v : List En) : List En := v.foldl (fun r e => if e.ts ≤ t ∧ ((r.filter fun y => mates y e).length : Int) < n then r ++ [e] else r) []
theorem readR_snoc (t n : Int) (v : List En) (e : En) : readR t n (v ++ [e]) = if e.ts ≤ t ∧ (((readR t n v).filter fun y => mates y e).length : Int) < n then readR t n v ++ [e] else readR t n v := by
  unfold readR
  rw [List.foldl_append]
  rfl
theorem readR_sub (t n : Int) (v : List En) (e : En) (h : e ∈ readR t n v) : e ∈ v := by
  have key : ∀ (v r : List En), e ∈ v.foldl (fun r e => if e.ts ≤ t ∧ ((r.filter fun y => mates y e).length : Int) < n then r ++ [e] else r) r → e ∈ r ∨ e ∈ v := by
    intro v
    induction v with
    | nil => intro r h; exact .inl h
    | cons x v ih =>
      intro r h
      rw [List.foldl_cons] at h
      rcases ih _ h with q | q
      · split at q
        · rcases List.mem_append.1 q with q | q
          · exact .inl q
          · rw [List.mem_singleton] at q
            exact .inr (by rw [q]; exact List.mem_cons_self)
        · exact .inl q
      · exact .inr (List.mem_cons_of_mem _ q)
  rcases key v [] h with q | q
  · cases q
  · exact q
structure RI (t n : Int) (E P : List En) : Prop where
  out : (showS t n (P.map fun e => ⟨e, 5, rankIn E e⟩)).2 = readR t n (P.filter fun e => decide (e.kind = 1))
  cnt : ∀ l, P.getLast? = some l → (showS t n (P.map fun e => ⟨e, 5, rankIn E e⟩)).1 = (((showS t n (P.map fun e => ⟨e, 5, rankIn E e⟩)).2.filter fun y => mates y l).length : Int)
  le : (showS t n (P.map fun e => ⟨e, 5, rankIn E e⟩)).1 ≤ n
theorem RI.step {t n : Int} {E P Q : List En} {e : En} (hE : E = P ++ e :: Q) (hs : E.Pairwise Ah) (h3 : ∀ x ∈ E, x.kind ≤ 3) (hD : ∀ x ∈ E, ∀ y ∈ E, mates x y = true → x.ts = y.ts → x = y) (hn : 0 ≤ n) (h : RI t n E P) : RI t n E (P ++ [e]) := by
  have hp := List.pairwise_append.1 (hE ▸ hs)
  have hq := List.pairwise_cons.1 hp.2.1
  have eE : e ∈ E := by rw [hE]; simp
  have pE : ∀ y ∈ P, y ∈ E := fun y hy => by rw [hE]; exact List.mem_append_left _ hy
  have above : ∀ y ∈ P, mates y e = true → e.ts < y.ts := fun y hy M => by
    have a := hp.2.2 y hy e List.mem_cons_self
    have m := mates_iff.1 M
    have k1 := h3 y (pE y hy)
    have k2 := h3 e eE
    have t1 := a.ts m.1 m.2.1 (by omega) m.2.2 (by omega)
    have : y.ts ≠ e.ts := fun z => by
      have := hD y (pE y hy) e eE M z
      subst this
      exact ah_irrefl a
    omega
  obtain ⟨S, hS⟩ : ∃ S, S = showS t n (P.map fun e => (⟨e, 5, rankIn E e⟩ : Vd)) := ⟨_, rfl⟩
  have sub : ∀ y ∈ S.2, y ∈ P := fun y hy => by
    rw [hS, h.out] at hy
    exact (List.mem_filter.1 (readR_sub t n _ y hy)).1
  obtain ⟨c, hc⟩ : ∃ c : Int, c = if rankIn E e = 1 then 0 else S.1 := ⟨_, rfl⟩
  have hcc : c = ((S.2.filter fun y => mates y e).length : Int) := by
    by_cases hno : ∃ y ∈ P, mates y e = true
    · obtain ⟨y, hy, M⟩ := hno
      have hr : rankIn E e ≠ 1 := fun z => by
        unfold rankIn at z
        have : y ∈ E.filter fun y => mates y e && decide (e.ts < y.ts) := List.mem_filter.2 ⟨pE y hy, by simp [M, above y hy M]⟩
        have := List.length_pos_of_mem this
        omega
      rw [hc, if_neg hr]
      cases hl : P.getLast? with
      | none => rw [List.getLast?_eq_none_iff] at hl; rw [hl] at hy; cases hy
      | some l =>
        obtain ⟨P', hP⟩ := List.getLast?_eq_some_iff.1 hl
        have lP : l ∈ P := by rw [hP]; simp
        have al := hp.2.2 l lP e List.mem_cons_self
        have yl : y = l ∨ Ah y l := by
          rw [hP] at hy
          rcases List.mem_append.1 hy with q | q
          · have := (List.pairwise_append.1 (hP ▸ hp.1)).2.2 y q l (by simp)
            exact .inr this
          · rw [List.mem_singleton] at q; exact .inl q
        have m := mates_iff.1 M
        have f := Ah.midF yl al m.1 m.2.1
        have k1 := h3 y (pE y hy)
        have q := Ah.midC yl al m.1 m.2.1 (by omega) m.2.2
        have ml : mates l e = true := mates_iff.2 ⟨f.1, f.2, q.2.1⟩
        rw [hS, h.cnt l hl, ← hS]
        congr 2
        apply List.filter_congr
        intro z _
        exact mates_same ml z
    · have no : ∀ y ∈ P, mates y e = false := fun y hy => by
        cases z : mates y e with
        | false => rfl
        | true => exact absurd ⟨y, hy, z⟩ hno
      have hr : rankIn E e = 1 := by
        unfold rankIn
        have : (E.filter fun y => mates y e && decide (e.ts < y.ts)) = [] := List.filter_eq_nil_iff.2 fun y hy hyy => by
          simp only [Bool.and_eq_true, decide_eq_true_eq] at hyy
          rw [hE] at hy
          rcases List.mem_append.1 hy with q | q
          · rw [no y q] at hyy; exact absurd hyy.1 (by simp)
          · rcases List.mem_cons.1 q with rfl | q
            · omega
            · have a := hq.1 y q
              have m := mates_iff.1 hyy.1
              have k1 := h3 y (by rw [hE]; exact List.mem_append_right _ (List.mem_cons_of_mem _ q))
              have k2 := h3 e eE
              have := a.ts m.1.symm m.2.1.symm (by omega) m.2.2.symm (by omega)
              omega
        rw [this]; rfl
      rw [hc, if_pos hr]
      have : (S.2.filter fun y => mates y e) = [] := List.filter_eq_nil_iff.2 fun y hy => by rw [no y (sub y hy)]; simp
      rw [this]; rfl
  have hcn : c ≤ n := by
    rw [hc]
    split
    · exact hn
    · rw [hS]; exact h.le
  have c0 : 0 ≤ c := by rw [hcc]; omega
  have es : showS t n ((P ++ [e]).map fun e => (⟨e, 5, rankIn E e⟩ : Vd)) = if e.kind = 1 ∧ e.ts ≤ t ∧ c < n then (c + 1, S.2 ++ [e]) else (c, S.2) := by
    rw [List.map_append, List.map_singleton, showS_snoc, ← hS]
    unfold showStep
    simp only
    rw [← hc]
    by_cases z : e.kind = 1 ∧ e.ts ≤ t ∧ c < n
    · rw [if_pos z, if_pos ⟨by trivial, z.1, z.2.1, by omega⟩]
    · rw [if_neg z, if_neg (fun y => z ⟨y.2.1, y.2.2.1, by omega⟩)]
  have er : readR t n ((P ++ [e]).filter fun e => decide (e.kind = 1)) = if e.kind = 1 ∧ e.ts ≤ t ∧ c < n then S.2 ++ [e] else S.2 := by
    rw [List.filter_append]
    by_cases k : e.kind = 1
    · rw [show ([e].filter fun e => decide (e.kind = 1)) = [e] by simp [k], readR_snoc, ← h.out, ← hS, ← hcc]
      by_cases z : e.ts ≤ t ∧ c < n
      · rw [if_pos z, if_pos ⟨k, z⟩]
      · rw [if_neg z, if_neg (fun y => z y.2)]
    · rw [show ([e].filter fun e => decide (e.kind = 1)) = [] by simp [k], List.append_nil, ← h.out, ← hS, if_neg (fun y => k y.1)]
  refine ⟨?_, fun l hl => ?_, ?_⟩
  · rw [es, er]
    split <;> rfl
  · have : l = e := by simpa using hl.symm
    subst this
    rw [es]
    split
    · simp only [List.filter_append, List.length_append]
      have : mates l l = true := mates_iff.2 ⟨rfl, rfl, rfl⟩
      simp [this, hcc]
    · exact hcc
  · rw [es]
    split
    · rename_i z; simp only; omega
    · exact hcn
theorem RI.all {t n : Int} {E : List En} (hs : E.Pairwise Ah) (h3 : ∀ x ∈ E, x.kind ≤ 3) (hD : ∀ x ∈ E, ∀ y ∈ E, mates x y = true → x.ts = y.ts → x = y) (hn : 0 ≤ n) : ∀ (Q P : List En), E = P ++ Q → RI t n E P → RI t n E E
  | [], P, e, h => by rw [List.append_nil] at e; rw [e] at h ⊢; exact h
  | x :: Q, P, e, h => RI.all hs h3 hD hn Q (P ++ [x]) (by rw [e, List.append_assoc]; rfl) (h.step e hs h3 hD hn)
theorem read_five {t n : Int} {E : List En} (hs : E.Pairwise Ah) (h3 : ∀ x ∈ E, x.kind ≤ 3) (hD : ∀ x ∈ E, ∀ y ∈ E, mates x y = true → x.ts = y.ts → x = y) (hn : 0 ≤ n) : (showS t n (E.map fun e => ⟨e, 5, rankIn E e⟩)).2 = readR t n (E.filter fun e => decide (e.kind = 1)) :=
  (RI.all hs h3 hD hn E [] rfl ⟨rfl, (fun l hl => by cases hl), hn⟩).out
theorem read_ref {m : List En} (hM : ∀ e ∈ m, 1 ≤ (famAt fs e.fam).1) (hs : m.Pairwise Ah) (hv : ∀ e ∈ m, Va e) {t n : Int} (hn : 0 ≤ n) : (showS t n (verdictsS fs clock m)).2 = readR t n (m.filter (visB fs clock m)) := by
  rw [show_five hM hs hv, read_five (five_sorted hs) five_three (five_dist hs) hn, vis_five]
end
end Go.Proofs.YthhkpkfpifllkaaGreat

namespace Go.Proofs.YthhkpkfpifllkaaGreat
open Go.RowKit
set_option linter.unusedVariables false

def ovr (x e : En) : Bool := (decide (x.kind = 5) && decide (x.fam = e.fam) && decide (x.row = e.row)) || (decide (x.kind = e.kind) && mates x e)
def upT (x e : En) : Bool := decide (e.ts < x.ts) || (decide (x.ts = e.ts) && (decide (e.kind < x.kind) || decide (e.seq < x.seq)))
end Go.Proofs.YthhkpkfpifllkaaGreat

namespace Go.Proofs.YthhkpkfpifllkaaGreat
open Go.RowKit
set_option linter.unusedVariables false

section
variable {fs : List (Int × Int)} {clock : Int}
def fateN (fs : List (Int × Int)) (clock : Int) (major : Bool) (low : Int) (m : List En) (e : En) : Int :=
  if 4 ≤ e.kind then (if shadow m e || (major && decide (e.ts ≤ low)) then 5 else 0)
  else if decidesS m e = false then 1
  else if e.ts ≤ maskOf m e then 2
  else if expS fs clock e then 3
  else if hasPut m e = false then (if major then 5 else 0)
  else if (famAt fs e.fam).1 < above fs clock m e + 1 then 4
  else 0
def fateE (m : List En) (e : En) : En := if 4 ≤ e.kind then e else if hasPut m e = false then e else hk e
end
end Go.Proofs.YthhkpkfpifllkaaGreat

namespace Go.Proofs.YthhkpkfpifllkaaGreat
open Go.RowKit
set_option linter.unusedVariables false

inductive Pushed (fs : List (Int × Int)) (clock : Int) (k : Nat) : List EntD → List EntD → Sp → List Vd → Prop
  | nil : Pushed fs clock k [] [] Sp.zero []
  | twin {l m : List EntD} {s : Sp} {vs : List Vd} {e y : EntD} (h : Pushed fs clock k l m s vs) (hy : m.getLast? = some y) (he : y.dat = e.dat) : Pushed fs clock k (l ++ [e]) m s (vs ++ [⟨e.dat, 1, 0⟩])
  | step {l m : List EntD} {s : Sp} {vs : List Vd} {e : EntD} (h : Pushed fs clock k l m s vs) (ho : ∀ y ∈ m, compareS y e ≤ 0 ∧ y.seq ≠ e.seq) (hc : check3S k e = 0) : Pushed fs clock k (l ++ [e]) (m ++ [e]) (stepS fs clock s e.dat).2 (vs ++ (stepS fs clock s e.dat).1)
section
variable {fs : List (Int × Int)} {clock : Int} {k : Nat} {l m : List EntD} {s : Sp} {vs : List Vd}
theorem Pushed.state (h : Pushed fs clock k l m s vs) : s = (walkS fs clock Sp.zero (m.map EntD.dat)).2 ∧ vs.filter kept = (walkS fs clock Sp.zero (m.map EntD.dat)).1.filter kept ∧ vs.length + m.length = (walkS fs clock Sp.zero (m.map EntD.dat)).1.length + l.length := by
  induction h with
  | nil => exact ⟨rfl, rfl, rfl⟩
  | twin h hy he ih =>
    refine ⟨ih.1, ?_, ?_⟩
    · rw [List.filter_append, ih.2.1]
      simp [kept]
    · have := ih.2.2
      simp only [List.length_append, List.length_cons, List.length_nil]
      omega
  | @step l m s vs e h ho hc ih =>
    have e1 := walk_snoc (fs := fs) (clock := clock) Sp.zero (m.map EntD.dat) e.dat
    rw [List.map_append, List.map_cons, List.map_nil, e1, ← ih.1]
    refine ⟨rfl, ?_, ?_⟩
    · rw [List.filter_append, List.filter_append, ih.2.1]
    · have := ih.2.2
      simp only [List.length_append, List.length_cons, List.length_nil]
      omega
theorem Pushed.ord (h : Pushed fs clock k l m s vs) : (m.Pairwise fun x y => compareS x y ≤ 0) ∧ (m.Pairwise fun x y => x.seq ≠ y.seq) ∧ (∀ x ∈ m, check3S k x = 0 ∧ x ∈ l) ∧ ∀ d, d ∈ m.map EntD.dat ↔ d ∈ l.map EntD.dat := by
  induction h with
  | nil => exact ⟨.nil, .nil, by simp, fun d => Iff.rfl⟩
  | twin h hy he ih =>
    refine ⟨ih.1, ih.2.1, fun x hx => ⟨(ih.2.2.1 x hx).1, List.mem_append_left _ (ih.2.2.1 x hx).2⟩, fun d => ?_⟩
    rw [List.map_append, List.mem_append, ih.2.2.2 d]
    refine ⟨fun q => .inl q, fun q => q.elim id (fun q => ?_)⟩
    rw [List.map_cons, List.map_nil, List.mem_singleton] at q
    rw [← ih.2.2.2 d, q, ← he]
    exact List.mem_map_of_mem (List.mem_of_getLast? hy)
  | step h ho hc ih =>
    refine ⟨List.pairwise_append.2 ⟨ih.1, List.pairwise_singleton _ _, fun x hx y hy => ?_⟩, List.pairwise_append.2 ⟨ih.2.1, List.pairwise_singleton _ _, fun x hx y hy => ?_⟩, fun x hx => ?_, fun d => ?_⟩
    · rw [List.mem_singleton] at hy
      rw [hy]; exact (ho x hx).1
    · rw [List.mem_singleton] at hy
      rw [hy]; exact (ho x hx).2
    · rcases List.mem_append.1 hx with q | q
      · exact ⟨(ih.2.2.1 x q).1, List.mem_append_left _ (ih.2.2.1 x q).2⟩
      · rw [List.mem_singleton] at q
        rw [q]; exact ⟨hc, List.mem_append_right _ List.mem_cons_self⟩
    · rw [List.map_append, List.map_append, List.mem_append, List.mem_append, ih.2.2.2 d]
theorem Pushed.isOrd (h : Pushed fs clock k l m s vs) : IsOrd k (l.map EntD.dat) (m.map EntD.dat) := by
  obtain ⟨h1, h2, h3, h4⟩ := h.ord
  refine ⟨?_, ?_, fun e he => ?_, fun e he => ?_, h4⟩
  · rw [List.pairwise_map]
    exact (h1.and h2).imp fun h => ah_of h.1 h.2
  · rw [List.pairwise_map]; exact h2
  · obtain ⟨y, hy, rfl⟩ := List.mem_map.1 he
    exact va_of_check (h3 y hy).1
  · obtain ⟨y, hy, rfl⟩ := List.mem_map.1 he
    exact (h3 y hy).1
def fCnt (us : List Vd) (p : Vd → Bool) : Int := ((us.filter p).length : Nat)
end
end Go.Proofs.YthhkpkfpifllkaaGreat

namespace Go.Proofs.YthhkpkfpifllkaaGreat
open Go.RowKit
set_option linter.unusedVariables false

section
variable {fs : List (Int × Int)} {clock : Int}
def whyV (major : Bool) (low : Int) (v : Vd) : Int := if staysS major low v then 0 else if v.fate = 1 then 1 else if v.fate = 2 then 2 else if v.fate = 3 then 3 else if v.fate = 4 then 4 else 5
def refCt (fs : List (Int × Int)) (clock : Int) (major : Bool) (low : Int) (n : Nat) (m : List En) : Ct :=
  ⟨((n : Int) - m.length) + ((m.filter fun e => decide (fateN fs clock major low m e = 1)).length : Nat), ((m.filter fun e => decide (fateN fs clock major low m e = 2)).length : Nat), ((m.filter fun e => decide (fateN fs clock major low m e = 3)).length : Nat), ((m.filter fun e => decide (fateN fs clock major low m e = 4)).length : Nat), ((m.filter fun e => decide (fateN fs clock major low m e = 5)).length : Nat)⟩
def refCtP (fs : List (Int × Int)) (clock : Int) (major : Bool) (low : Int) (n : Nat) (m p : List En) : Ct :=
  ⟨((n : Int) - m.length) + ((p.filter fun e => decide (fateN fs clock major low m e = 1)).length : Nat), ((p.filter fun e => decide (fateN fs clock major low m e = 2)).length : Nat), ((p.filter fun e => decide (fateN fs clock major low m e = 3)).length : Nat), ((p.filter fun e => decide (fateN fs clock major low m e = 4)).length : Nat), ((p.filter fun e => decide (fateN fs clock major low m e = 5)).length : Nat)⟩
def Ct.incN (c : Ct) (k : Int) : Ct := if k = 1 then { c with o := c.o + 1 } else if k = 2 then { c with m := c.m + 1 } else if k = 3 then { c with x := c.x + 1 } else if k = 4 then { c with a := c.a + 1 } else if k = 5 then { c with k := c.k + 1 } else c
end
end Go.Proofs.YthhkpkfpifllkaaGreat

namespace Go.Proofs.YthhkpkfpifllkaaGreat
open Go.RowKit
set_option linter.unusedVariables false

section
variable {fs : List (Int × Int)} {clock : Int}
def Gd : Bool → List Vd → Prop
  | true, _ => True
  | false, [] => True
  | false, v :: us => (v.rank = 1 ∧ Gd true us) ∨ (v.fate ≠ 5 ∧ v.rank ≠ 1 ∧ Gd false us)
theorem show_carry (tm n : Int) (us : List Vd) : ∀ (s0 : Int) (out : List En), Gd false us → (us.foldl (showStep tm n) (s0, out)).2 = out ++ (us.foldl (showStep tm n) (0, [])).2 := by
  have same : ∀ (us : List Vd) (s : Int) (out : List En), us.foldl (showStep tm n) (s, out) = ((us.foldl (showStep tm n) (s, [])).1, out ++ (us.foldl (showStep tm n) (s, [])).2) := by
    intro us
    induction us with
    | nil => intro s out; simp
    | cons v us ih =>
      intro s out
      simp only [List.foldl_cons]
      unfold showStep
      by_cases h : v.fate = 5 ∧ v.e.kind = 1 ∧ v.e.ts ≤ tm ∧ (if v.rank = 1 then 0 else s) ≠ n
      · simp only [if_pos h]
        have a := ih ((if v.rank = 1 then 0 else s) + 1) (out ++ [v.e])
        have b := ih ((if v.rank = 1 then 0 else s) + 1) ([] ++ [v.e])
        unfold showStep at a b
        rw [a, b]
        simp
      · simp only [if_neg h]
        have a := ih (if v.rank = 1 then 0 else s) out
        unfold showStep at a
        rw [a]
  induction us with
  | nil => intro s0 out _; simp
  | cons v us ih =>
    intro s0 out hg
    rcases hg with ⟨h1, -⟩ | ⟨h5, h1, hg⟩
    · have e : showStep tm n (s0, out) v = ((showStep tm n (0, []) v).1, out ++ (showStep tm n (0, []) v).2) := by
        unfold showStep
        simp only [if_pos h1]
        split <;> simp
      simp only [List.foldl_cons]
      rw [e, same us _ (out ++ _), same us _ (showStep tm n (0, []) v).2]
      simp
    · have e : ∀ s out, showStep tm n (s, out) v = (s, out) := fun s out => by
        unfold showStep
        simp [h5, h1]
      simp only [List.foldl_cons]
      rw [e, e]
      exact ih s0 out hg
theorem show_append (tm n : Int) (us ws : List Vd) (h : Gd false ws) : (showS tm n (us ++ ws)).2 = (showS tm n us).2 ++ (showS tm n ws).2 := by
  unfold showS
  rw [List.foldl_append]
  exact show_carry tm n ws _ _ h
def Qr (V : List Vd) (s : Sp) : Prop := Gd false V ∧ ((∃ v ∈ V, v.rank = 1) ∨ s.rank = 0)
theorem gd_append {us ws : List Vd} (h : Gd false us) (k : (∃ v ∈ us, v.rank = 1) ∨ Gd false ws) : Gd false (us ++ ws) := by
  induction us with
  | nil =>
    rcases k with ⟨v, hv, -⟩ | k
    · cases hv
    · exact k
  | cons v us ih =>
    rcases h with ⟨h1, -⟩ | ⟨h5, h1, hg⟩
    · exact .inl ⟨h1, by simp [Gd]⟩
    · refine .inr ⟨h5, h1, ih hg ?_⟩
      rcases k with ⟨y, hy, e⟩ | k
      · rcases List.mem_cons.1 hy with z | z
        · rw [z] at e; exact absurd e h1
        · exact .inl ⟨y, z, e⟩
      · exact .inr k
theorem Qr.app {V1 V2 : List Vd} {s1 s2 : Sp} (h : Qr V1 s1) (k : s1.rank = 0 → Qr V2 s2) : Qr (V1 ++ V2) s2 := by
  rcases h.2 with ⟨v, hv, e⟩ | z
  · exact ⟨gd_append h.1 (.inl ⟨v, hv, e⟩), .inl ⟨v, List.mem_append_left _ hv, e⟩⟩
  · have q := k z
    refine ⟨gd_append h.1 (.inr q.1), ?_⟩
    rcases q.2 with ⟨v, hv, e⟩ | y
    · exact .inl ⟨v, List.mem_append_right _ hv, e⟩
    · exact .inr y
theorem Qr.same {V : List Vd} {s s' : Sp} (h : Qr V s) (e : s.rank = 0 → s'.rank = 0) : Qr V s' := ⟨h.1, h.2.imp id e⟩
theorem qr_nil {s : Sp} (h : s.rank = 0) : Qr [] s := ⟨by simp [Gd], .inr h⟩
theorem qr_decide {s : Sp} (h : s.rank = 0) (e : En) : Qr [(decideS fs clock s e).1] (decideS fs clock s e).2 := by
  unfold decideS
  by_cases h1 : e.ts ≤ s.mask
  · simp [if_pos h1, Qr, Gd, h]
  · by_cases h2 : 0 < (famAt fs e.fam).2 ∧ e.ts + (famAt fs e.fam).2 ≤ clock
    · simp [if_neg h1, if_pos h2, Qr, Gd, h]
    · by_cases h3 : e.kind = 3
      · simp [if_neg h1, if_neg h2, if_pos h3, Qr, Gd, h]
      · simp [if_neg h1, if_neg h2, if_neg h3, Qr, Gd, h]
theorem qr_resolve {s : Sp} (h : s.rank = 0) (k : Int) : Qr (resolveS fs clock s k).1 (resolveS fs clock s k).2 := by
  unfold resolveS
  split
  · exact qr_decide (s := { s with waiting := false }) h _
  · exact qr_nil h
theorem left_rank0 (s : Sp) (f c : Bool) (h : s.rank = 0) : (leftS s f c).rank = 0 := by
  unfold leftS
  cases f <;> cases c <;> simp [h]
theorem qr_enter {s : Sp} (h : s.rank = 0) (e : En) : Qr (enterS fs clock s e).1 (enterS fs clock s e).2 := by
  unfold enterS
  split
  · exact qr_nil h
  · exact (qr_resolve h 3).same (left_rank0 _ _ _)
theorem qr_stretch {s : Sp} (h : s.rank = 0) (e : En) : Qr [(stretchS s e).1] (stretchS s e).2 := by
  unfold stretchS
  split <;> simp [Qr, Gd, h]
theorem qr_step {s : Sp} (h : s.rank = 0) (e : En) : Qr (stepS fs clock s e).1 (stepS fs clock s e).2 := by
  have q := qr_enter (fs := fs) (clock := clock) h e
  have one : ∀ {s : Sp}, s.rank = 0 → Qr [⟨e, 1, 0⟩] s := fun h => by simp [Qr, Gd, h]
  unfold stepS
  split
  · exact (q.app (fun z => qr_stretch z e)).same (fun z => z)
  · split
    · split
      · exact (q.app (fun z => (qr_resolve z 2).app (fun y => one y))).same (fun z => z)
      · exact (q.app (fun z => one z)).same (fun z => z)
    · split
      · exact q.same (fun z => z)
      · exact (q.app (fun z => qr_decide z e)).same (fun z => z)
theorem Pushed.qr {k : Nat} {l m : List EntD} {s : Sp} {vs : List Vd} (h : Pushed fs clock k l m s vs) : Qr vs s := by
  induction h with
  | nil => exact qr_nil rfl
  | twin h hy he ih => exact ih.app (fun z => by simp [Qr, Gd, z])
  | step h ho hc ih => exact ih.app (fun z => qr_step z _)
theorem Pushed.gd {k : Nat} {l m : List EntD} {s : Sp} {vs : List Vd} (h : Pushed fs clock k l m s vs) : Gd false vs ∧ Gd false (vs ++ (resolveS fs clock s 3).1) := ⟨h.qr.1, (h.qr.app (fun z => qr_resolve z 3)).1⟩
end
end Go.Proofs.YthhkpkfpifllkaaGreat

namespace Go.Proofs.YthhkpkfpifllkaaGreat
open Go.RowKit
set_option linter.unusedVariables false

def pushE (k : Nat) (s : SpD) (e : EntD) : Int := if check3S k e ≠ 0 then check3S k e else if s.begun = true then (if compareS e s.last < 0 then 30 else if sameS e s.last = true then 0 else if e.seq = s.last.seq then 31 else 0) else 0
def pushS (k : Nat) (fs : List (Int × Int)) (clock : Int) (s : SpD) (e : EntD) : List Vd × Sp := if pushE k s e ≠ 0 then ([], s.dat) else if s.begun = true ∧ sameS e s.last = true then ([⟨e.dat, 1, 0⟩], s.dat) else stepS fs clock s.dat e.dat
section
variable {W0 : Base} {W W' : World} {wb g rb : Nat} {fv : Value} {fs : List FamD} {clock : Int} {T : World → (Nat → Prop) → List Vd → Prop} {O : Nat → Prop} {s : SpD} {vs : List Vd} {e : EntD}
def Lst (s : SpD) (i : Nat) : Prop := s.last.vr.ownBlock = some i ∨ s.last.vq.ownBlock = some i ∨ s.last.vv.ownBlock = some i
theorem Wk.rebase (ht : Teller g rb T) (h : Wk W0 wb g rb fv fs clock T W O s vs) (hO : ∀ i, O i → i = rb) (hs : W.heap.size ≤ W'.heap.size) (hw : W'.heap[wb]? = W.heap[wb]?) (hr : W'.heap[rb]? = W.heap[rb]?) (hm : ∀ i, Lst s i → W'.heap[i]? = W.heap[i]?) (hf : ∀ Z, Fr0 ⟨W', W0.lo, Lst s⟩ wb rb Z → RdF Z fv fs) : Wk ⟨W', W0.lo, Lst s⟩ wb g rb fv fs clock T W' O s vs := by
  refine ⟨h.box.keep hw, hf, ht.keep h.tell (fun i hi => by rw [hO i hi]; exact hr) hs, ⟨own_same h.own.1 (fun k hk => hm k (.inl hk)), own_same h.own.2.1 (fun k hk => hm k (.inr (.inl hk))), own_same h.own.2.2 (fun k hk => hm k (.inr (.inr hk)))⟩, fun k hk => .inl hk, h.apart, h.apO, fun i hi => .inl (hO i hi), Nat.le_trans h.lo (Nat.le_trans h.fr.1 hs), ⟨Nat.lt_of_lt_of_le h.box.lt hs, h.wlow.2.1, fun k => h.lastw _ k rfl⟩, h.rank, h.mask, h.bys, h.few, h.wait, rfl, rfl, rfl, Nat.le_refl _, fun i _ _ _ _ => rfl⟩
set_option maxRecDepth 100000 in
set_option maxHeartbeats 4000000 in
theorem wpush_any (ht : Teller g rb T) (h : Wk W0 wb g rb fv fs clock T W O s vs) (he : ∀ Z, Fr0 W0 wb rb Z → EntD.Ok Z e) (hv : vs.length + 4 < 1353245080339) (hfs : ∀ f ∈ fs, 0 ≤ f.tl ∧ f.tl ≤ 1099511627776) (hr : s.rank ≤ vs.length) (hwb : s.waiting = true → s.begun = true) :
    Calls Tryz.prog 107 #[.pointer (some ⟨wb, 0, none⟩), .agg e.cells] W fun r W' => r = .returned (.int .i64 (pushE fs.length s e)) ∧ ∃ O' s', Wk W0 wb g rb fv fs clock T W' O' s' (vs ++ (pushS fs.length (mt fs) clock s e).1) ∧ s'.dat = (pushS fs.length (mt fs) clock s e).2 := by
  have A := (Below.refl W.heap.size W).alloc (Nat.le_refl _) (.cells e.cells 84)
  have eb := EBox.new W e
  have h1 := h.later ht A
  obtain ⟨qb, hqb⟩ : ∃ q, q = W.heap.size := ⟨_, rfl⟩
  have hqb' := hqb.symm
  rw [← hqb] at eb
  obtain ⟨X, hX⟩ : ∃ X, X = W.alloc (.cells e.cells 84) := ⟨_, rfl⟩
  rw [← hX] at eb h1
  have HX := Lib.hid hX
  have HT := Lib.hid ht
  have HE := Lib.hid he
  have HFs := Lib.hid hfs
  have HWb := Lib.hid hwb
  have HU : Hid (∀ Z, Below X.heap.size X Z → Wk W0 wb g rb fv fs clock T Z O s vs ∧ EBox Z qb e ∧ EntD.Ok Z e ∧ EntD.Ok Z s.last) := fun Z b => by
    have k := h1.later ht b
    exact ⟨k, eb.later b, he Z k.fr, k.ok⟩
  have HCs : Hid (∀ Z, Below X.heap.size X Z → (Z.cell? ⟨qb, 0, none⟩ = some e.vr ∧ Z.cell? ⟨qb, 1, none⟩ = some (.int .i64 e.fam) ∧ Z.cell? ⟨qb, 2, none⟩ = some e.vq ∧ Z.cell? ⟨qb, 3, none⟩ = some (.int .i64 e.ts) ∧ Z.cell? ⟨qb, 4, none⟩ = some (.int .i64 e.seq) ∧ Z.cell? ⟨qb, 5, none⟩ = some (.int .i64 e.kind) ∧ Z.cell? ⟨qb, 6, none⟩ = some e.vv) ∧ (Z.cell? ⟨wb, 4, none⟩ = some s.last.vr ∧ Z.cell? ⟨wb, 5, none⟩ = some (.int .i64 s.last.fam) ∧ Z.cell? ⟨wb, 6, none⟩ = some s.last.vq ∧ Z.cell? ⟨wb, 7, none⟩ = some (.int .i64 s.last.ts) ∧ Z.cell? ⟨wb, 8, none⟩ = some (.int .i64 s.last.seq) ∧ Z.cell? ⟨wb, 9, none⟩ = some (.int .i64 s.last.kind) ∧ Z.cell? ⟨wb, 10, none⟩ = some s.last.vv)) := fun Z b => ⟨EBox.cells7 (HU.out Z b).2.1, (HU.out Z b).1.box.last7⟩
  have HC1 : Hid (Calls Tryz.prog 94 #[.pointer (some ⟨wb, 0, none⟩), .agg e.cells] X fun r W' => r = .returned (.int .i64 (check3S fs.length e)) ∧ Below X.heap.size X W') := by
    obtain ⟨k1, k2, k3, k4⟩ := HU.out X (Below.refl _ _)
    obtain ⟨fa, fc, hfv, -⟩ := k1.fam X k1.fr
    exact check3_any (by rw [← hfv]; exact k1.box) k3
  have HC2 : Hid (∀ Z, Below X.heap.size X Z → Calls Tryz.prog 81 #[.agg e.cells, .agg s.last.cells] Z fun r W' => r = .returned (.int .i64 (compareS e s.last)) ∧ Below X.heap.size X W') := fun Z b => (compare_any (HU.out Z b).2.2.1 (HU.out Z b).2.2.2).mono (fun r w' k => ⟨k.1, b.trans (k.2.mono b.size)⟩)
  have HC3 : Hid (∀ Z, Below X.heap.size X Z → Calls Tryz.prog 108 #[.agg e.cells, .agg s.last.cells] Z fun r W' => r = .returned (.bool (sameS e s.last)) ∧ Below X.heap.size X W') := fun Z b => (same3_any (HU.out Z b).2.2.1 (HU.out Z b).2.2.2).mono (fun r w' k => ⟨k.1, b.trans (k.2.mono b.size)⟩)
  have HC4 : Hid (∀ Z, Below X.heap.size X Z → check3S fs.length e = 0 → Calls Tryz.prog g #[.pointer (some ⟨rb, 0, none⟩), vdV e 1 0] Z fun r W' => r = .returned (.tuple #[]) ∧ ∃ O', Wk W0 wb g rb fv fs clock T W' O' s (vs ++ [⟨e.dat, 1, 0⟩]) ∧ EBox W' qb e) := fun Z b hc => (ht.say 1 0 (HU.out Z b).1.tell (HU.out Z b).2.2.1 (fit_of_check hc) (by omega)).mono (fun r w' k => ⟨k.1, k.2.choose, (HU.out Z b).1.told k.2.choose_spec.1 k.2.choose_spec.2, k.2.choose_spec.2.ebox (h.fresh ht (by rw [hqb]; exact Nat.le_refl _)) (HU.out Z b).2.1⟩)
  have HC5 : Hid (∀ Z, Below X.heap.size X Z → check3S fs.length e = 0 → Calls Tryz.prog 95 #[.pointer (some ⟨wb, 0, none⟩), .agg e.cells] Z fun r W' => r = .returned (.tuple #[]) ∧ ∃ O' s', Wk W0 wb g rb fv fs clock T W' O' s' (vs ++ (stepS (mt fs) clock s.dat e.dat).1) ∧ s'.dat = (stepS (mt fs) clock s.dat e.dat).2) := fun Z b hc => step_any HT.out (HU.out Z b).1 HE.out (fit_of_check hc) hv HFs.out hr HWb.out
  have HEE : Hid (pushE fs.length s e = if check3S fs.length e ≠ 0 then check3S fs.length e else if s.begun = true then (if compareS e s.last < 0 then 30 else if sameS e s.last = true then 0 else if e.seq = s.last.seq then 31 else 0) else 0) := rfl
  have HSS : Hid (pushS fs.length (mt fs) clock s e = if pushE fs.length s e ≠ 0 then ([], s.dat) else if s.begun = true ∧ sameS e s.last = true then ([⟨e.dat, 1, 0⟩], s.dat) else stepS (mt fs) clock s.dat e.dat) := rfl
  have HS0 : Hid (sameS e s.last = true → compareS e s.last = 0) := fun k => by unfold sameS at k; simp at k; exact k.1
  obtain ⟨C, hC⟩ : ∃ C, C = check3S fs.length e := ⟨_, rfl⟩
  obtain ⟨P, hP⟩ : ∃ P, P = compareS e s.last := ⟨_, rfl⟩
  obtain ⟨M, hM⟩ : ∃ M, M = sameS e s.last := ⟨_, rfl⟩
  obtain ⟨E, hE⟩ : ∃ E, E = pushE fs.length s e := ⟨_, rfl⟩
  obtain ⟨D, hD⟩ : ∃ D, D = pushS fs.length (mt fs) clock s e := ⟨_, rfl⟩
  rw [← hC] at HC1 HC4 HC5 HEE
  rw [← hP] at HC2 HS0 HEE
  rw [← hM] at HC3 HS0 HEE HSS
  rw [← hE] at HEE HSS ⊢
  rw [← hD] at HSS ⊢
  have eg := ht.enters
  have xs := (HCs.out X (Below.refl _ _)).1
  rw [hX] at xs
  obtain ⟨x0, x1, x2, x3, x4, x5, x6⟩ := xs
  unfold vdV at HC4
  unfold EntD.cells at HX HC1 HC2 HC3 HC5 x0 x1 x2 x3 x4 x5 x6 ⊢
  clear ht h he hfs hwb A eb h1 hX hqb hC hP hM hE hD
  go_enter Tryz.func107, Tryz.ntmps107
  go_wp2_with fail
  rw [← HX.out]
  (try rw [hqb'])
  refine Calls.mono HC1.out ?_
  rintro z X1 ⟨rfl, b1⟩
  have HB1 := Lib.hid b1
  clear x0 x1 x2 x3 x4 x5 x6 HC1 HX hqb' b1
  by_cases hc : C = 0
  · subst hc
    have c3 := (HU.out X1 HB1.out).1.box.c3
    obtain ⟨⟨x0, x1, x2, x3, x4, x5, x6⟩, y4, y5, y6, y7, y8, y9, y10⟩ := HCs.out X1 HB1.out
    cases hbg : s.begun with
    | false =>
      rw [hbg] at c3
      have HE0 : Hid (E = 0 ∧ D = stepS (mt fs) clock s.dat e.dat) := by
        have q : E = 0 := by rw [HEE.out]; simp [hbg]
        exact ⟨q, by rw [HSS.out]; simp [hbg, q]⟩
      have HC6 := Lib.hid (HC5.out X1 HB1.out rfl)
      clear hbg HEE HSS
      go_wp2_with fail
      refine Calls.mono HC6.out ?_
      rintro z2 X2 ⟨rfl, O', s', k1, k2⟩
      have HK := Lib.hid (And.intro k1 k2)
      clear k1 k2 HC6 c3 x0 x1 x2 x3 x4 x5 x6 y4 y5 y6 y7 y8 y9 y10
      go_wp2
      go_ret
      rw [HE0.out.2]
      exact ⟨by rw [HE0.out.1]; rfl, O', s', HK.out.1, HK.out.2⟩
    | true =>
      rw [hbg] at c3
      have HEE2 : Hid (E = if P < 0 then 30 else if M = true then 0 else if e.seq = s.last.seq then 31 else 0) := by unfold Hid; rw [HEE.out]; simp [hbg]
      have HSS2 : Hid (D = if E ≠ 0 then ([], s.dat) else if M = true then ([⟨e.dat, 1, 0⟩], s.dat) else stepS (mt fs) clock s.dat e.dat) := by unfold Hid; rw [HSS.out]; simp [hbg]
      clear hbg HEE HSS
      have D1 : Below X1.heap.size X1 X1.drew := (Below.refl _ _).drew
      have B2 := HB1.out.trans (D1.mono HB1.out.size)
      have HC6 := Lib.hid (HC2.out _ B2)
      have z1 := HCs.out _ B2
      go_upto_region 5 with fail
      go_region_held3 (fun Z => (Z.cell? ⟨qb, 0, none⟩ = some e.vr ∧ Z.cell? ⟨qb, 1, none⟩ = some (.int .i64 e.fam) ∧ Z.cell? ⟨qb, 2, none⟩ = some e.vq ∧ Z.cell? ⟨qb, 3, none⟩ = some (.int .i64 e.ts) ∧ Z.cell? ⟨qb, 4, none⟩ = some (.int .i64 e.seq) ∧ Z.cell? ⟨qb, 5, none⟩ = some (.int .i64 e.kind) ∧ Z.cell? ⟨qb, 6, none⟩ = some e.vv) ∧ (Z.cell? ⟨wb, 4, none⟩ = some s.last.vr ∧ Z.cell? ⟨wb, 5, none⟩ = some (.int .i64 s.last.fam) ∧ Z.cell? ⟨wb, 6, none⟩ = some s.last.vq ∧ Z.cell? ⟨wb, 7, none⟩ = some (.int .i64 s.last.ts) ∧ Z.cell? ⟨wb, 8, none⟩ = some (.int .i64 s.last.seq) ∧ Z.cell? ⟨wb, 9, none⟩ = some (.int .i64 s.last.kind) ∧ Z.cell? ⟨wb, 10, none⟩ = some s.last.vv)) (first | exact HCs.out _ b3 | exact z1) ((refine Calls.mono HC6.out ?_; rintro z2 X2 ⟨rfl, b3⟩))
      have HB3 := Lib.hid b3
      clear c3 x0 x1 x2 x3 x4 x5 x6 y4 y5 y6 y7 y8 y9 y10 z1 D1 B2 HC6 b3
      by_cases hp : P < 0
      · have q : Hid (E = 30 ∧ D = ([], s.dat)) := by
          have q1 : E = 30 := by rw [HEE2.out, if_pos hp]
          exact ⟨q1, by rw [HSS2.out, if_pos (by rw [q1]; decide)]⟩
        have hpd : decide (P < 0) = true := decide_eq_true hp
        clear HEE2 HSS2
        go_wp2
        go_ret
        rw [q.out.2]
        exact ⟨by rw [q.out.1]; rfl, O, s, by simpa using (HU.out _ HB3.out).1, rfl⟩
      · have hpd : decide (P < 0) = false := decide_eq_false hp
        have HEE3 : Hid (E = if M = true then 0 else if e.seq = s.last.seq then 31 else 0) := by unfold Hid; rw [HEE2.out, if_neg hp]
        clear HEE2
        go_upto_region 8 with fail
        go_cut [28] (fun c wx => c = .bool M ∧ Hid (Below X.heap.size X wx))
        case first =>
          by_cases h0 : P = 0
          · subst h0
            have D1 : Below X2.heap.size X2 X2.drew := (Below.refl _ _).drew
            have B2 := HB3.out.trans (D1.mono HB3.out.size)
            have HC6 := Lib.hid (HC3.out _ B2)
            have z1 := HCs.out _ B2
            go_region_held3 (fun Z => (Z.cell? ⟨qb, 0, none⟩ = some e.vr ∧ Z.cell? ⟨qb, 1, none⟩ = some (.int .i64 e.fam) ∧ Z.cell? ⟨qb, 2, none⟩ = some e.vq ∧ Z.cell? ⟨qb, 3, none⟩ = some (.int .i64 e.ts) ∧ Z.cell? ⟨qb, 4, none⟩ = some (.int .i64 e.seq) ∧ Z.cell? ⟨qb, 5, none⟩ = some (.int .i64 e.kind) ∧ Z.cell? ⟨qb, 6, none⟩ = some e.vv) ∧ (Z.cell? ⟨wb, 4, none⟩ = some s.last.vr ∧ Z.cell? ⟨wb, 5, none⟩ = some (.int .i64 s.last.fam) ∧ Z.cell? ⟨wb, 6, none⟩ = some s.last.vq ∧ Z.cell? ⟨wb, 7, none⟩ = some (.int .i64 s.last.ts) ∧ Z.cell? ⟨wb, 8, none⟩ = some (.int .i64 s.last.seq) ∧ Z.cell? ⟨wb, 9, none⟩ = some (.int .i64 s.last.kind) ∧ Z.cell? ⟨wb, 10, none⟩ = some s.last.vv)) (first | exact HCs.out _ b3 | exact z1) ((refine Calls.mono HC6.out ?_; rintro z3 X3 ⟨rfl, b3⟩))
            have HB4 := Lib.hid b3
            clear z1 D1 B2 HC6 b3
            go_wp2_with fail
            go_meet
            exact ⟨rfl, HB4.out⟩
          · have hM : M = false := by cases hm : M; rfl; exact absurd (HS0.out hm) h0
            subst hM
            have b0 : (P == 0) = false := by simp [h0]
            go_quiet (fail)
            go_wp2_with fail
            go_meet
            exact ⟨rfl, below_dn HB3.out _⟩
        case rest =>
        obtain ⟨rfl, HB4⟩ := hcut
        obtain ⟨X3, hX3⟩ : ∃ X3, X3 = wc := ⟨_, rfl⟩
        subst hX3
        have D1 : Below X3.heap.size X3 X3.drew := (Below.refl _ _).drew
        have B5 := HB4.out.trans (D1.mono HB4.out.size)
        cases M with
        | true =>
          have q : Hid (E = 0 ∧ D = ([⟨e.dat, 1, 0⟩], s.dat)) := by
            have q1 : E = 0 := by rw [HEE3.out, if_pos rfl]
            exact ⟨q1, by rw [HSS2.out, if_neg (by rw [q1]; decide), if_pos rfl]⟩
          have HC6 := Lib.hid (HC4.out _ B5 (by trivial))
          have z1 := (HU.out _ B5).1.box.c2
          have z2 := (HCs.out _ B5).1
          clear HEE3 HSS2
          go_upto_region 9 with fail
          go_region_held3 (fun Z => Z.cell? ⟨wb, 2, none⟩ = some (.func (.func g) #[.pointer (some ⟨rb, 0, none⟩)] #[]) ∧ (Z.cell? ⟨qb, 0, none⟩ = some e.vr ∧ Z.cell? ⟨qb, 1, none⟩ = some (.int .i64 e.fam) ∧ Z.cell? ⟨qb, 2, none⟩ = some e.vq ∧ Z.cell? ⟨qb, 3, none⟩ = some (.int .i64 e.ts) ∧ Z.cell? ⟨qb, 4, none⟩ = some (.int .i64 e.seq) ∧ Z.cell? ⟨qb, 5, none⟩ = some (.int .i64 e.kind) ∧ Z.cell? ⟨qb, 6, none⟩ = some e.vv)) (first | exact ⟨k5.box.c2, EBox.cells7 k6⟩ | exact ⟨z1, z2⟩) ((refine Calls.mono HC6.out ?_; rintro z4 X4 ⟨rfl, O4, k5, k6⟩))
          have HK := Lib.hid k5
          clear k5 k6 z1 z2 HC6 D1 B5
          go_wp2
          go_ret
          rw [q.out.2]
          exact ⟨by rw [q.out.1]; rfl, O4, s, HK.out, rfl⟩
        | false =>
          have HEE4 : Hid (E = if e.seq = s.last.seq then 31 else 0) := by unfold Hid; rw [HEE3.out, if_neg (by decide)]
          obtain ⟨⟨x0, x1, x2, x3, x4, x5, x6⟩, y4, y5, y6, y7, y8, y9, y10⟩ := HCs.out X3 HB4.out
          clear HEE3
          by_cases hq : e.seq = s.last.seq
          · have q : Hid (E = 31 ∧ D = ([], s.dat)) := by
              have q1 : E = 31 := by rw [HEE4.out, if_pos hq]
              exact ⟨q1, by rw [HSS2.out, if_pos (by rw [q1]; decide)]⟩
            have hqb : (e.seq == s.last.seq) = true := by simp [hq]
            clear HEE4 HSS2 hq
            go_upto_region 11 with fail
            go_region
            go_wp2
            go_ret
            rw [q.out.2]
            exact ⟨by rw [q.out.1]; rfl, O, s, by simpa using (HU.out _ B5).1, rfl⟩
          · have q : Hid (E = 0 ∧ D = stepS (mt fs) clock s.dat e.dat) := by
              have q1 : E = 0 := by rw [HEE4.out, if_neg hq]
              exact ⟨q1, by rw [HSS2.out, if_neg (by rw [q1]; decide), if_neg (by decide)]⟩
            have hqb : (e.seq == s.last.seq) = false := by simp [hq]
            have HC6 := Lib.hid (HC5.out _ B5 (by trivial))
            clear HEE4 HSS2 hq
            go_upto_region 11 with fail
            go_region
            clear x0 x1 x2 x3 x4 x5 x6 y4 y5 y6 y7 y8 y9 y10
            obtain ⟨x0, x1, x2, x3, x4, x5, x6⟩ := (HCs.out _ B5).1
            go_wp2_with fail
            refine Calls.mono HC6.out ?_
            rintro z4 X4 ⟨rfl, O', s', k1, k2⟩
            have HK := Lib.hid (And.intro k1 k2)
            clear k1 k2 HC6 x0 x1 x2 x3 x4 x5 x6 D1 B5
            go_wp2
            go_ret
            rw [q.out.2]
            exact ⟨by rw [q.out.1]; rfl, O', s', HK.out.1, HK.out.2⟩
  · have q : Hid (E = C ∧ D = ([], s.dat)) := by
      have q1 : E = C := by rw [HEE.out, if_pos hc]
      exact ⟨q1, by rw [HSS.out, if_pos (by rw [q1]; exact hc)]⟩
    have b0 : (C != 0) = true := by simp [hc]
    clear HEE HSS hc
    go_wp2
    go_ret
    rw [q.out.2]
    exact ⟨by rw [q.out.1]; rfl, O, s, by simpa using (HU.out _ HB1.out).1, rfl⟩
end
end Go.Proofs.YthhkpkfpifllkaaGreat

namespace Go.Proofs.YthhkpkfpifllkaaGreat
open Go.RowKit
set_option linter.unusedVariables false

structure Hands (g fb N : Nat) (c0 : Value) (T : List En → World → (Nat → Prop) → List Vd → Prop) : Prop where
  tl : ∀ hd, Teller g fb (T hd)
  out : ∀ {hd : List En} {W : World} {O : Nat → Prop} {vs : List Vd}, T hd W O vs → ∃ (xs : List EntD) (a : Option Addr) (c : Nat) (cs : List Value) (ty : TypeId) (Or : Nat → Prop), SBx W fb c0 (.slice a xs.length c) cs ty ∧ Rw W N (.slice a xs.length c) xs Or ∧ ¬ Or fb ∧ (∀ i, Or i → O i) ∧ O fb ∧ ∀ W', SBx W' fb c0 (.slice none 0 0) cs ty → W.grownBy W' (some fb) → T (hd ++ xs.map EntD.dat) W' (fun i => i = fb) vs
theorem reader_hands (fb N : Nat) (cp : Option Addr) (tm n : Int) : Hands 71 fb N (.pointer cp) (fun hd => TR hd fb N cp tm n) := by
  refine ⟨fun hd => reader_teller hd fb N cp tm n, fun {hd W O vs} h => ?_⟩
  obtain ⟨xs, ov, Or, hb, hr, hno, hsub, hx⟩ := h.st
  obtain ⟨a, c, rfl⟩ := rows_form3 hr.row
  refine ⟨xs, a, c, _, _, Or, hb, hr, hno, hsub, h.of, fun W' sb gr => ?_⟩
  exact ⟨⟨[], .slice none 0 0, fun _ => False, sb, Rw.nil _ _ _, fun z => z, fun _ z => z.elim, by simpa using hx⟩, h.ok, rfl, fun i hi => by rw [hi]; exact sb.lt, Nat.le_trans h.low gr.size⟩
section
variable {W0 : Base} {W W' : World} {wb g rb N : Nat} {fv : Value} {fs : List FamD} {clock : Int} {hd : List En} {T : List En → World → (Nat → Prop) → List Vd → Prop} {O O' : Nat → Prop} {s : SpD} {vs : List Vd} {e : EntD}
theorem Wk.swap {T0 T1 : World → (Nat → Prop) → List Vd → Prop} (h : Wk W0 wb g rb fv fs clock T0 W O s vs) (t : T1 W' O' vs) (f : Tf W W' O O') : Wk W0 wb g rb fv fs clock T1 W' O' s vs := by
  have hlt := h.lastlt
  have sm : ∀ k, s.last.vr.ownBlock = some k ∨ s.last.vq.ownBlock = some k ∨ s.last.vv.ownBlock = some k → W'.heap[k]? = W.heap[k]? := fun k hk => f.block k (hlt k hk).2 (h.apO k hk)
  refine ⟨h.box.keep (f.block wb h.box.lt h.notO), h.fam, t, ⟨own_same h.own.1 (fun k hk => sm k (.inl hk)), own_same h.own.2.1 (fun k hk => sm k (.inr (.inl hk))), own_same h.own.2.2 (fun k hk => sm k (.inr (.inr hk)))⟩, h.lastL, h.apart, fun k hk ho => ?_, fun i hi => ?_, h.lo, h.wlow, h.rank, h.mask, h.bys, h.few, h.wait, f.os.trans h.os, f.tape.trans h.tape, f.output.trans h.output, Nat.le_trans h.fr.1 f.size, fun i hi h1 h2 h3 => ?_⟩
  · rcases f.own k ho with k1 | k1
    · exact h.apO k hk k1
    · have := (hlt k hk).2; omega
  · rcases f.own i hi with k1 | k1
    · exact h.low i k1
    · exact .inr (Nat.le_trans h.fr.1 k1)
  · rw [f.block i (Nat.lt_of_lt_of_le hi h.fr.1) (fun k => by rcases h.low i k with e | e; exact h2 e; omega)]
    exact h.fr.2 i hi h1 h2 h3
structure Gone (W0 : Base) (wb g rb N : Nat) (fv : Value) (fs : List FamD) (clock : Int) (T : List En → World → (Nat → Prop) → List Vd → Prop) (hd : List En) (W' : World) (v : Value) (xs : List EntD) (Or : Nat → Prop) (s' : SpD) (vs : List Vd) : Prop where
  rw_ : Rw W' N v xs Or
  new : ∀ i, Or i → W0.heap.size ≤ i ∧ i < W'.heap.size
  ap : ∀ i, Or i → ¬ Lst s' i ∧ i ≠ wb ∧ i ≠ rb
  wk : Wk W0 wb g rb fv fs clock (T (hd ++ xs.map EntD.dat)) W' (fun i => i = rb) s' vs
theorem gone_of (H : Hands g rb N (.pointer (some ⟨wb, 0, none⟩)) T) (k : Wk W0 wb g rb fv fs clock (T hd) W O s vs) {xs : List EntD} {a : Option Addr} {c : Nat} {Or : Nat → Prop} (hr : Rw W N (.slice a xs.length c) xs Or) (hno : ¬ Or rb) (hsub : ∀ i, Or i → O i) (hof : O rb) (hre : T (hd ++ xs.map EntD.dat) W' (fun i => i = rb) vs) (gr : W.grownBy W' (some rb)) : Gone W0 wb g rb N fv fs clock T hd W' (.slice a xs.length c) xs Or s vs := by
  refine ⟨hr.keep (fun i hi => gr.block i ((H.tl hd).lt k.tell (hsub i hi)) (fun z => by cases z; exact hno hi)), fun i hi => ⟨?_, Nat.lt_of_lt_of_le ((H.tl hd).lt k.tell (hsub i hi)) gr.size⟩, fun i hi => ⟨fun l => k.apO i l (hsub i hi), fun z => k.notO (by rw [← z]; exact hsub i hi), fun z => hno (by rw [← z]; exact hi)⟩, k.swap hre ⟨gr.os, gr.tape, gr.output, gr.size, fun i hi hn => gr.block i hi (fun z => by cases z; exact hn hof), fun i hi => .inl (by rw [hi]; exact hof)⟩⟩
  rcases k.low i (hsub i hi) with z | z
  · exact absurd (by rw [← z]; exact hi) hno
  · exact z

set_option maxRecDepth 100000 in
set_option maxHeartbeats 4000000 in
theorem spush_any (H : Hands g rb N (.pointer (some ⟨wb, 0, none⟩)) T) (h : Wk W0 wb g rb fv fs clock (T hd) W O s vs) (he : ∀ Z, Fr0 W0 wb rb Z → EntD.Ok Z e) (hv : vs.length + 4 < 1353245080339) (hfs : ∀ f ∈ fs, 0 ≤ f.tl ∧ f.tl ≤ 1099511627776) (hr : s.rank ≤ vs.length) (hwb : s.waiting = true → s.begun = true) :
    Calls Tryz.prog 73 #[.pointer (some ⟨rb, 0, none⟩), .agg e.cells] W fun r W' => ∃ xs a c Or s', r = .returned (.tuple #[.slice a xs.length c, .int .i64 (pushE fs.length s e)]) ∧ Gone W0 wb g rb N fv fs clock T hd W' (.slice a xs.length c) xs Or s' (vs ++ (pushS fs.length (mt fs) clock s e).1) ∧ s'.dat = (pushS fs.length (mt fs) clock s e).2 := by
  have A := (Below.refl W.heap.size W).alloc (Nat.le_refl _) (.cells e.cells 84)
  have eb := EBox.new W e
  have ht0 := H.tl hd
  have h1 := h.later ht0 A
  have hfr := h.fresh ht0 (Nat.le_refl W.heap.size)
  have hlt := h.lastlt
  obtain ⟨qb, hqb⟩ : ∃ q, q = W.heap.size := ⟨_, rfl⟩
  have hqb' := hqb.symm
  rw [← hqb] at eb hfr
  have K0 := h1.ext eb hfr (by rw [hqb]; exact h.fr.1) (fun k hk => by have := (hlt k hk).2; omega)
  have ht : Teller g rb (TE (T hd) qb (.cells e.cells 84 (0, 0))) := ht0.ext
  obtain ⟨TT, hTT⟩ : ∃ TT, TT = TE (T hd) qb (.cells e.cells 84 (0, 0)) := ⟨_, rfl⟩
  rw [← hTT] at K0 ht
  have HTT := Lib.hid hTT
  obtain ⟨X, hX⟩ : ∃ X, X = W.alloc (.cells e.cells 84) := ⟨_, rfl⟩
  rw [← hX] at K0
  have HX := Lib.hid hX
  have HH := Lib.hid H
  have HCE : Hid (∀ Z O' s' us, Wk W0 wb g rb fv fs clock TT Z O' s' us → Z.cell? ⟨rb, 0, none⟩ = some (.pointer (some ⟨wb, 0, none⟩)) ∧ Z.cell? ⟨qb, 0, none⟩ = some e.vr ∧ Z.cell? ⟨qb, 1, none⟩ = some (.int .i64 e.fam) ∧ Z.cell? ⟨qb, 2, none⟩ = some e.vq ∧ Z.cell? ⟨qb, 3, none⟩ = some (.int .i64 e.ts) ∧ Z.cell? ⟨qb, 4, none⟩ = some (.int .i64 e.seq) ∧ Z.cell? ⟨qb, 5, none⟩ = some (.int .i64 e.kind) ∧ Z.cell? ⟨qb, 6, none⟩ = some e.vv) := fun Z O' s' us k => by
    rw [hTT] at k
    obtain ⟨xs, a, c, cs, ty, Or, sb, -⟩ := H.out k.tell.2.2
    exact ⟨sb.c00, EBox.cells7 k.tell.1⟩
  have D4 : Below X.heap.size X X.drew := (Below.refl _ _).drew
  have K4 := K0.later ht D4
  have z1 := HCE.out _ _ _ _ K4
  have HC1 := Lib.hid (wpush_any ht K4 he hv hfs hr hwb)
  obtain ⟨E, hE⟩ : ∃ E, E = pushE fs.length s e := ⟨_, rfl⟩
  obtain ⟨D, hD⟩ : ∃ D, D = pushS fs.length (mt fs) clock s e := ⟨_, rfl⟩
  rw [← hE, ← hD] at HC1 ⊢
  unfold EntD.cells at HX HC1 ⊢
  clear H ht0 ht h he hv hfs hr hwb A eb h1 hfr hlt hX hqb K0 K4 D4 hE hD hTT
  go_enter Tryz.func73, Tryz.ntmps73
  go_upto_region 1 with fail
  rw [← HX.out]
  (try rw [hqb'])
  clear HX hqb'
  go_region_held3 (fun Z => Z.cell? ⟨rb, 0, none⟩ = some (.pointer (some ⟨wb, 0, none⟩)) ∧ Z.cell? ⟨qb, 0, none⟩ = some e.vr ∧ Z.cell? ⟨qb, 1, none⟩ = some (.int .i64 e.fam) ∧ Z.cell? ⟨qb, 2, none⟩ = some e.vq ∧ Z.cell? ⟨qb, 3, none⟩ = some (.int .i64 e.ts) ∧ Z.cell? ⟨qb, 4, none⟩ = some (.int .i64 e.seq) ∧ Z.cell? ⟨qb, 5, none⟩ = some (.int .i64 e.kind) ∧ Z.cell? ⟨qb, 6, none⟩ = some e.vv) (first | exact HCE.out _ _ _ _ K5 | exact z1) ((go_at_call 107; refine Calls.mono HC1.out ?_; rintro z X1 ⟨rfl, O1, s1, K5, d5⟩))
  rw [HTT.out] at K5
  have K6 := K5.unext
  obtain ⟨xs, a, c, cs, ty, Or, sb, rw1, hno, hsub, hof, hre⟩ := HH.out.out K6.tell
  have HO := Lib.hid (handOut_any sb)
  have HK : Hid (∀ X2, SBx X2 rb (.pointer (some ⟨wb, 0, none⟩)) (.slice none 0 0) cs ty → X1.grownBy X2 (some rb) → Gone W0 wb g rb N fv fs clock T hd X2 (.slice a xs.length c) xs Or s1 (vs ++ D.1)) := fun X2 sb2 gr2 => gone_of HH.out K6 rw1 hno hsub hof (hre X2 sb2 gr2) gr2
  have HD5 := Lib.hid d5
  obtain ⟨n, hn⟩ : ∃ n, n = xs.length := ⟨_, rfl⟩
  rw [← hn] at HO HK
  have HN := Lib.hid hn
  clear K5 K6 d5 z1 HCE HC1 sb rw1 hno hsub hof hre hn
  go_wp2_with fail
  refine Calls.mono HO.out ?_
  rintro z2 X2 ⟨rfl, sb2, gr2⟩
  have HG := Lib.hid (HK.out X2 sb2 gr2)
  clear sb2 gr2 HO HK
  go_wp2
  go_ret2
  exact ⟨xs, a, c, Or, s1, by rw [← HN.out]; rfl, by rw [← HN.out]; exact HG.out, HD5.out⟩

set_option maxRecDepth 100000 in
set_option maxHeartbeats 4000000 in
theorem send_any (H : Hands g rb N (.pointer (some ⟨wb, 0, none⟩)) T) (h : Wk W0 wb g rb fv fs clock (T hd) W O s vs) (hv : vs.length < 1353245080339) (hfs : ∀ f ∈ fs, 0 ≤ f.tl ∧ f.tl ≤ 1099511627776) (hr : s.rank ≤ vs.length) (hwb : s.waiting = true → s.begun = true) :
    Calls Tryz.prog 72 #[.pointer (some ⟨rb, 0, none⟩)] W fun r W' => ∃ xs a c Or, r = .returned (.slice a xs.length c) ∧ Gone W0 wb g rb N fv fs clock T hd W' (.slice a xs.length c) xs Or spZ (vs ++ (resolveS (mt fs) clock s.dat 3).1) := by
  have HC1 := Lib.hid (end_any (H.tl hd) h hv hfs hr hwb)
  have HH := Lib.hid H
  obtain ⟨xs, a, c, cs, ty, Or, sb, -⟩ := H.out h.tell
  have c0 := sb.c00
  obtain ⟨D, hD⟩ : ∃ D, D = (resolveS (mt fs) clock s.dat 3).1 := ⟨_, rfl⟩
  rw [← hD] at HC1 ⊢
  clear H h hv hfs hr hwb sb hD
  go_enter Tryz.func72, Tryz.ntmps72
  go_wp2_with fail
  refine Calls.mono HC1.out ?_
  rintro z X1 ⟨rfl, O1, K6⟩
  clear c0 HC1
  obtain ⟨xs, a, c, cs, ty, Or, sb, rw1, hno, hsub, hof, hre⟩ := HH.out.out K6.tell
  have HO := Lib.hid (handOut_any sb)
  have HK : Hid (∀ X2, SBx X2 rb (.pointer (some ⟨wb, 0, none⟩)) (.slice none 0 0) cs ty → X1.grownBy X2 (some rb) → Gone W0 wb g rb N fv fs clock T hd X2 (.slice a xs.length c) xs Or spZ (vs ++ D)) := fun X2 sb2 gr2 => gone_of HH.out K6 rw1 hno hsub hof (hre X2 sb2 gr2) gr2
  obtain ⟨n, hn⟩ : ∃ n, n = xs.length := ⟨_, rfl⟩
  rw [← hn] at HO HK
  have HN := Lib.hid hn
  clear K6 sb rw1 hno hsub hof hre hn
  go_wp2_with fail
  refine Calls.mono HO.out ?_
  rintro z2 X2 ⟨rfl, sb2, gr2⟩
  have HG := Lib.hid (HK.out X2 sb2 gr2)
  clear sb2 gr2 HO HK
  go_wp2
  go_ret
  exact ⟨xs, a, c, Or, by rw [← HN.out]; rfl, by rw [← HN.out]; exact HG.out⟩
end
end Go.Proofs.YthhkpkfpifllkaaGreat
