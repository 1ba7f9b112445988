import Derived.Test.YthhkpkfpifllkaaGreatK01
namespace Go.Proofs.YthhkpkfpifllkaaGreat
open Go.RowKit
set_option linter.unusedVariables false

theorem ordC_mid (x l e : List Nat) (h : ordC x l ≤ 0) (k : ordC l e ≤ 0) (he : x = e) : l = e := by
  subst he
  have := ordC_swap x l
  exact (ordC_eq _ _ (by omega)).symm
structure Ah (a b : En) : Prop where
  row : ordC a.row b.row ≤ 0
  fam : a.row = b.row → a.fam ≤ b.fam
  k5 : a.row = b.row → a.fam = b.fam → b.kind = 5 → a.kind = 5
  qual : a.row = b.row → a.fam = b.fam → (a.kind = 5 ↔ b.kind = 5) → ordC a.qual b.qual ≤ 0
  k4 : a.row = b.row → a.fam = b.fam → (a.kind = 5 ↔ b.kind = 5) → a.qual = b.qual → b.kind = 4 → a.kind = 4
  ts : a.row = b.row → a.fam = b.fam → (a.kind = 5 ↔ b.kind = 5) → a.qual = b.qual → (a.kind = 4 ↔ b.kind = 4) → b.ts ≤ a.ts
  seq : a.row = b.row → a.fam = b.fam → (a.kind = 5 ↔ b.kind = 5) → a.qual = b.qual → (a.kind = 4 ↔ b.kind = 4) → a.ts = b.ts → b.seq < a.seq
structure Va (e : En) : Prop where
  k1 : 1 ≤ e.kind
  k5 : e.kind ≤ 5
  ts : 1 ≤ e.ts
  val : e.kind ≠ 1 → e.val = []
  qual : e.kind = 5 → e.qual = []
theorem Ah.midF {x l e : En} (h : x = l ∨ Ah x l) (k : Ah l e) (hr : x.row = e.row) (hf : x.fam = e.fam) : l.row = e.row ∧ l.fam = e.fam := by
  rcases h with rfl | h
  · exact ⟨hr, hf⟩
  · have r := ordC_mid _ _ _ h.row k.row hr
    have f1 := h.fam (hr.trans r.symm)
    have f2 := k.fam r
    exact ⟨r, by omega⟩
theorem Ah.midC {x l e : En} (h : x = l ∨ Ah x l) (k : Ah l e) (hr : x.row = e.row) (hf : x.fam = e.fam) (h5 : x.kind ≠ 5) (hq : x.qual = e.qual) : l.kind ≠ 5 ∧ l.qual = e.qual ∧ e.kind ≠ 5 := by
  obtain ⟨r, f⟩ := Ah.midF h k hr hf
  rcases h with rfl | h
  · exact ⟨h5, hq, fun z => h5 (k.k5 r f z)⟩
  · have l5 : l.kind ≠ 5 := fun z => h5 (h.k5 (hr.trans r.symm) (hf.trans f.symm) z)
    have e5 : e.kind ≠ 5 := fun z => l5 (k.k5 r f z)
    exact ⟨l5, ordC_mid _ _ _ (h.qual (hr.trans r.symm) (hf.trans f.symm) (by omega)) (k.qual r f (by omega)) hq, e5⟩
theorem Ah.midG {x l e : En} (h : x = l ∨ Ah x l) (k : Ah l e) (hr : x.row = e.row) (hf : x.fam = e.fam) (h3 : x.kind ≤ 3) (hq : x.qual = e.qual) (e3 : e.kind ≤ 3) (ht : x.ts = e.ts) : l.kind ≠ 4 ∧ l.ts = e.ts := by
  obtain ⟨r, f⟩ := Ah.midF h k hr hf
  obtain ⟨l5, q, e5⟩ := Ah.midC h k hr hf (by omega) hq
  rcases h with rfl | h
  · exact ⟨by omega, ht⟩
  · have l4 : l.kind ≠ 4 := fun z => by have := h.k4 (hr.trans r.symm) (hf.trans f.symm) (by omega) (hq.trans q.symm) z; omega
    have t1 := h.ts (hr.trans r.symm) (hf.trans f.symm) (by omega) (hq.trans q.symm) (by omega)
    have t2 := k.ts r f (by omega) q (by omega)
    exact ⟨l4, by omega⟩
def mates (x e : En) : Bool := decide (x.row = e.row ∧ x.fam = e.fam ∧ x.qual = e.qual)
theorem mates_iff {x e : En} : mates x e = true ↔ x.row = e.row ∧ x.fam = e.fam ∧ x.qual = e.qual := by simp [mates]
def cover (x e : En) : Bool := decide (x.row = e.row ∧ x.fam = e.fam ∧ (x.kind = 5 ∨ x.kind = 4 ∧ e.kind ≠ 5 ∧ x.qual = e.qual))
theorem cover_iff {x e : En} : cover x e = true ↔ x.row = e.row ∧ x.fam = e.fam ∧ (x.kind = 5 ∨ x.kind = 4 ∧ e.kind ≠ 5 ∧ x.qual = e.qual) := by simp [cover]
def maskOf (m : List En) (e : En) : Int := m.foldr (fun x r => if cover x e then max x.ts r else r) 0
theorem maskOf_cons (x : En) (m : List En) (e : En) : maskOf (x :: m) e = if cover x e then max x.ts (maskOf m e) else maskOf m e := rfl
theorem maskOf_nn (m : List En) (e : En) : 0 ≤ maskOf m e := by
  induction m with
  | nil => exact Int.le_refl _
  | cons x m ih => rw [maskOf_cons]; split <;> omega
theorem maskOf_le {m : List En} {e x : En} (hx : x ∈ m) (hc : cover x e = true) : x.ts ≤ maskOf m e := by
  induction m with
  | nil => cases hx
  | cons y m ih =>
    rw [maskOf_cons]
    rcases List.mem_cons.1 hx with rfl | hx
    · rw [if_pos hc]; omega
    · have := ih hx
      split <;> omega
theorem maskOf_att (m : List En) (e : En) : maskOf m e = 0 ∨ ∃ x ∈ m, cover x e = true ∧ x.ts = maskOf m e := by
  induction m with
  | nil => exact .inl rfl
  | cons y m ih =>
    rw [maskOf_cons]
    by_cases hc : cover y e = true
    · rw [if_pos hc]
      by_cases hm : maskOf m e ≤ y.ts
      · exact .inr ⟨y, List.mem_cons_self, hc, by omega⟩
      · rcases ih with h | ⟨x, hx, c, t⟩
        · exact .inl (by omega)
        · exact .inr ⟨x, List.mem_cons_of_mem _ hx, c, by omega⟩
    · rw [if_neg hc]
      rcases ih with h | ⟨x, hx, c, t⟩
      · exact .inl h
      · exact .inr ⟨x, List.mem_cons_of_mem _ hx, c, t⟩
theorem maskOf_mono {m m' : List En} {e e' : En} (h : ∀ x ∈ m, cover x e = true → x ∈ m' ∧ cover x e' = true) : maskOf m e ≤ maskOf m' e' := by
  rcases maskOf_att m e with h0 | ⟨x, hx, c, t⟩
  · rw [h0]; exact maskOf_nn _ _
  · rw [← t]; exact maskOf_le (h x hx c).1 (h x hx c).2
theorem maskOf_congr {m m' : List En} {e e' : En} (h : ∀ x ∈ m, cover x e = true → x ∈ m' ∧ cover x e' = true) (k : ∀ x ∈ m', cover x e' = true → x ∈ m ∧ cover x e = true) : maskOf m e = maskOf m' e' :=
  Int.le_antisymm (maskOf_mono h) (maskOf_mono k)
theorem maskOf_zero {m : List En} {e : En} (h : ∀ x ∈ m, cover x e = false) : maskOf m e = 0 := by
  rcases maskOf_att m e with h0 | ⟨x, hx, c, t⟩
  · exact h0
  · rw [h x hx] at c; cases c
def gpE (x e : En) : Bool := decide (x.kind ≤ 3 ∧ e.kind ≤ 3 ∧ x.row = e.row ∧ x.fam = e.fam ∧ x.qual = e.qual ∧ x.ts = e.ts)
theorem gpE_iff {x e : En} : gpE x e = true ↔ x.kind ≤ 3 ∧ e.kind ≤ 3 ∧ x.row = e.row ∧ x.fam = e.fam ∧ x.qual = e.qual ∧ x.ts = e.ts := by simp [gpE]
def decidesS (m : List En) (e : En) : Bool := m.all fun x => !gpE x e || decide (x.seq ≤ e.seq)
theorem decides_iff {m : List En} {e : En} : decidesS m e = true ↔ ∀ x ∈ m, gpE x e = true → x.seq ≤ e.seq := by
  unfold decidesS
  rw [List.all_eq_true]
  refine ⟨fun h x hx hg => ?_, fun h x hx => ?_⟩
  · have := h x hx
    simpa [hg] using this
  · by_cases hg : gpE x e = true
    · simp [hg, h x hx hg]
    · simp [hg]
def hasPut (m : List En) (e : En) : Bool := m.any fun x => gpE x e && decide (x.kind ≠ 3)
theorem hasPut_iff {m : List En} {e : En} : hasPut m e = true ↔ ∃ x ∈ m, gpE x e = true ∧ x.kind ≠ 3 := by
  unfold hasPut
  simp
def kd (m : List En) (e : En) : Int := if e.kind = 3 ∧ hasPut m e = true then 2 else e.kind
def shadow (m : List En) (x : En) : Bool := m.any fun y => cover y x && decide (x.ts < y.ts ∨ x.ts = y.ts ∧ (x.kind < y.kind ∨ x.seq < y.seq))
theorem shadow_iff {m : List En} {x : En} : shadow m x = true ↔ ∃ y ∈ m, cover y x = true ∧ (x.ts < y.ts ∨ x.ts = y.ts ∧ (x.kind < y.kind ∨ x.seq < y.seq)) := by
  unfold shadow
  simp only [List.any_eq_true, Bool.and_eq_true, decide_eq_true_eq]
section
variable (fs : List (Int × Int)) (clock : Int)
def expS (e : En) : Bool := decide (0 < (famAt fs e.fam).2 ∧ e.ts + (famAt fs e.fam).2 ≤ clock)
def counts (m : List En) (x : En) : Bool := decide (x.kind ≤ 3) && decidesS m x && decide (kd m x ≠ 3) && decide (maskOf m x < x.ts) && !expS fs clock x
def cnt (m p : List En) (e : En) : Int := ((p.filter fun x => counts fs clock m x && mates x e).length : Nat)
def above (m : List En) (e : En) : Int := ((m.filter fun x => counts fs clock m x && mates x e && decide (e.ts < x.ts)).length : Nat)
def sv (m : List En) (e : En) : Vd :=
  if 4 ≤ e.kind then ⟨e, if shadow m e then 8 else 7, 0⟩
  else if decidesS m e then (decideS fs clock { Sp.zero with mask := maskOf m e, rank := above fs clock m e } { e with kind := kd m e }).1
  else ⟨e, 1, 0⟩
end
def kept (v : Vd) : Bool := decide (v.fate ≠ 1)
theorem counts_iff {fs : List (Int × Int)} {clock : Int} {m : List En} {x : En} : counts fs clock m x = true ↔ x.kind ≤ 3 ∧ decidesS m x = true ∧ kd m x ≠ 3 ∧ maskOf m x < x.ts ∧ expS fs clock x = false := by
  unfold counts
  simp only [Bool.and_eq_true, decide_eq_true_eq, Bool.not_eq_true', and_assoc]
section
variable {fs : List (Int × Int)} {clock : Int}
theorem decide_sv {m : List En} {σ : Sp} {t : En} (h3 : t.kind ≤ 3) (hd : decidesS m t = true) (hm : σ.mask = maskOf m t) (hr : σ.rank = above fs clock m t) :
    (decideS fs clock σ { t with kind := kd m t }).1 = sv fs clock m t ∧ (decideS fs clock σ { t with kind := kd m t }).2 = { σ with rank := σ.rank + if counts fs clock m t = true then 1 else 0 } := by
  have hc := counts_iff (fs := fs) (clock := clock) (m := m) (x := t)
  obtain ⟨b, l, f, mk, rk, wt, sq⟩ := σ
  simp only at hm hr
  subst hm hr
  unfold sv
  rw [if_neg (by omega), if_pos hd]
  unfold decideS
  by_cases h1 : t.ts ≤ maskOf m t
  · have c0 : counts fs clock m t = false := Bool.eq_false_iff.2 (fun c => by have := (hc.1 c).2.2.2.1; omega)
    simp [h1, c0]
  · by_cases h2 : 0 < (famAt fs t.fam).2 ∧ t.ts + (famAt fs t.fam).2 ≤ clock
    · have c0 : counts fs clock m t = false := Bool.eq_false_iff.2 (fun c => by have := (hc.1 c).2.2.2.2; simp [expS, h2] at this)
      simp [h1, h2, c0]
    · by_cases h4 : kd m t = 3
      · have c0 : counts fs clock m t = false := Bool.eq_false_iff.2 (fun c => (hc.1 c).2.2.1 h4)
        simp only [if_neg h1, if_neg h2, if_pos h4, c0]
        simp
      · have c0 : counts fs clock m t = true := hc.2 ⟨h3, hd, h4, by omega, by simpa [expS] using h2⟩
        simp only [if_neg h1, if_neg h2, if_neg h4, c0]
        simp
theorem cnt_app (m p q : List En) (e : En) : cnt fs clock m (p ++ q) e = cnt fs clock m p e + cnt fs clock m q e := by
  unfold cnt
  rw [List.filter_append, List.length_append]
  omega
theorem cnt_zero {m p : List En} {e : En} (h : ∀ x ∈ p, counts fs clock m x = true → mates x e = false) : cnt fs clock m p e = 0 := by
  unfold cnt
  rw [List.filter_eq_nil_iff.2]
  · rfl
  · intro x hx hc
    simp only [Bool.and_eq_true] at hc
    rw [h x hx hc.1] at hc
    exact absurd hc.2 (by simp)
theorem cnt_congr {m p : List En} {e e' : En} (h : e.row = e'.row ∧ e.fam = e'.fam ∧ e.qual = e'.qual) : cnt fs clock m p e = cnt fs clock m p e' := by
  unfold cnt
  have : ∀ x, mates x e = mates x e' := fun x => by simp only [mates, h.1, h.2.1, h.2.2]
  simp only [this]
theorem cnt_one (m : List En) (x e : En) (hm : mates x e = true) : cnt fs clock m [x] e = if counts fs clock m x = true then 1 else 0 := by
  unfold cnt
  by_cases h : counts fs clock m x = true
  · simp [h, hm]
  · simp [h]
theorem above_cnt {m r q : List En} {t : En} (hm : m = r ++ t :: q) (hs : m.Pairwise Ah) (hv : ∀ e ∈ m, Va e) (h3 : t.kind ≤ 3) (hn : ∀ x ∈ r, gpE x t = false) : above fs clock m t = cnt fs clock m r t := by
  unfold above cnt
  have hp := List.pairwise_append.1 (hm ▸ hs)
  have hq := List.pairwise_cons.1 hp.2.1
  have e : ∀ (P : En → Bool), (m.filter P) = r.filter P ++ (t :: q).filter P := fun P => by rw [hm, List.filter_append]
  rw [e, (List.filter_eq_nil_iff (l := t :: q)).2, List.append_nil]
  · congr 2
    apply List.filter_congr
    intro x hx
    by_cases hc : counts fs clock m x = true
    · by_cases hM : mates x t = true
      · have h1 := mates_iff.1 hM
        have h2 := (counts_iff.1 hc).1
        have ha := hp.2.2 x hx t List.mem_cons_self
        have ht := ha.ts h1.1 h1.2.1 (by omega) h1.2.2 (by omega)
        have : ¬ x.ts = t.ts := fun z => by
          have := gpE_iff.2 ⟨h2, h3, h1.1, h1.2.1, h1.2.2, z⟩
          rw [hn x hx] at this
          cases this
        have h9 : t.ts < x.ts := by omega
        simp [h9]
      · simp [hM]
    · simp [hc]
  · intro x hx hc
    simp only [Bool.and_eq_true, decide_eq_true_eq] at hc
    rcases List.mem_cons.1 hx with rfl | hx
    · omega
    · have h1 := mates_iff.1 hc.1.2
      have h2 := (counts_iff.1 hc.1.1).1
      have ha := hq.1 x hx
      have := ha.ts h1.1.symm h1.2.1.symm (by omega) h1.2.2.symm (by omega)
      omega
theorem mask_part {m r q : List En} {t : En} (hm : m = r ++ t :: q) (hs : m.Pairwise Ah) (h3 : t.kind ≤ 3) : maskOf m t = maskOf r t := by
  have hp := List.pairwise_append.1 (hm ▸ hs)
  have hq := List.pairwise_cons.1 hp.2.1
  refine maskOf_congr (fun x hx c => ⟨?_, c⟩) (fun x hx c => ⟨by rw [hm]; exact List.mem_append_left _ hx, c⟩)
  rw [hm] at hx
  rcases List.mem_append.1 hx with h | h
  · exact h
  · exfalso
    have cc := cover_iff.1 c
    rcases List.mem_cons.1 h with rfl | h
    · omega
    · have ha := hq.1 x h
      rcases cc.2.2 with k | ⟨k, k5, kq⟩
      · have := ha.k5 cc.1.symm cc.2.1.symm k; omega
      · have := ha.k4 cc.1.symm cc.2.1.symm (by omega) kq.symm k; omega
theorem first_decides {m r q : List En} {t : En} (hm : m = r ++ t :: q) (hs : m.Pairwise Ah) (hn : ∀ x ∈ r, gpE x t = false) : decidesS m t = true := by
  have hp := List.pairwise_append.1 (hm ▸ hs)
  have hq := List.pairwise_cons.1 hp.2.1
  refine decides_iff.2 fun x hx hg => ?_
  rw [hm] at hx
  rcases List.mem_append.1 hx with h | h
  · rw [hn x h] at hg; cases hg
  · rcases List.mem_cons.1 h with rfl | h
    · exact Int.le_refl _
    · obtain ⟨g1, g2, g3, g4, g5, g6⟩ := gpE_iff.1 hg
      have := (hq.1 x h).seq g3.symm g4.symm (by omega) g5.symm (by omega) g6.symm
      omega
theorem later_not {m r q : List En} {e l : En} (hm : m = r ++ e :: q) (hs : m.Pairwise Ah) (hl : l ∈ r) (hg : gpE l e = true) : decidesS m e = false := by
  have hp := List.pairwise_append.1 (hm ▸ hs)
  cases h : decidesS m e with
  | false => rfl
  | true =>
    have := decides_iff.1 h l (by rw [hm]; exact List.mem_append_left _ hl) hg
    obtain ⟨g1, g2, g3, g4, g5, g6⟩ := gpE_iff.1 hg
    have := (hp.2.2 l hl e List.mem_cons_self).seq g3 g4 (by omega) g5 (by omega) g6
    omega
end
end Go.Proofs.YthhkpkfpifllkaaGreat

namespace Go.Proofs.YthhkpkfpifllkaaGreat
open Go.RowKit
set_option linter.unusedVariables false

section
variable {fs : List (Int × Int)} {clock : Int}
structure Mid (fs : List (Int × Int)) (clock : Int) (m r d : List En) (l : En) (s : Sp) (V : List Vd) : Prop where
  last : ∀ x ∈ r ++ d, x = l ∨ Ah x l
  mem : l ∈ r ++ d
  begun : s.begun = true
  lst : s.last = l
  fam : s.family = maskOf (r ++ d) { l with kind := 5 }
  mask : s.mask = maskOf (r ++ d) l
  rank : s.rank = cnt fs clock m r l
  out : V.filter kept = (r.map (sv fs clock m)).filter kept
  wait : (s.waiting = false ∧ d = []) ∨ (s.waiting = true ∧ ∃ t g, d = t :: g ∧ t.kind = 3 ∧ l.kind = 3 ∧ gpE l t = true ∧ s.seq = t.seq ∧ (∀ x ∈ g, gpE x t = true ∧ x.kind = 3) ∧ ∀ x ∈ r, gpE x t = false)
structure Ent (fs : List (Int × Int)) (clock : Int) (m p : List En) (e : En) (σ : Sp) (V : List Vd) : Prop where
  wait : σ.waiting = false
  fam : σ.family = maskOf p { e with kind := 5 }
  mask : σ.mask = maskOf p e
  rank : σ.rank = cnt fs clock m p e
  out : V.filter kept = (p.map (sv fs clock m)).filter kept
  new : ∀ x ∈ p, gpE x e = false
theorem cover_of {x a b : En} (h : a.row = b.row ∧ a.fam = b.fam ∧ a.qual = b.qual) (k : a.kind = 5 ↔ b.kind = 5) : cover x a = true → cover x b = true := by
  rw [cover_iff, cover_iff, h.1, h.2.1, h.2.2]
  rintro ⟨h1, h2, h3⟩
  exact ⟨h1, h2, h3.imp id (fun ⟨a, b, c⟩ => ⟨a, fun z => b (k.2 z), c⟩)⟩
theorem maskOf_same {m : List En} {a b : En} (h : a.row = b.row ∧ a.fam = b.fam ∧ a.qual = b.qual) (k : a.kind = 5 ↔ b.kind = 5) : maskOf m a = maskOf m b :=
  maskOf_congr (fun x hx c => ⟨hx, cover_of h k c⟩) (fun x hx c => ⟨hx, cover_of ⟨h.1.symm, h.2.1.symm, h.2.2.symm⟩ k.symm c⟩)
theorem maskOf_fam {m : List En} {a b : En} (h : a.row = b.row ∧ a.fam = b.fam) : maskOf m { a with kind := 5 } = maskOf m { b with kind := 5 } := by
  refine maskOf_congr (fun x hx c => ⟨hx, ?_⟩) (fun x hx c => ⟨hx, ?_⟩) <;>
  · rw [cover_iff] at c ⊢
    simp only [h.1, h.2] at c ⊢
    obtain ⟨c1, c2, c3⟩ := c
    exact ⟨c1, c2, .inl (by rcases c3 with c | ⟨_, c, _⟩ <;> first | exact c | exact absurd rfl c)⟩
theorem maskOf_snoc_v {p : List En} {e a : En} (h : e.kind ≤ 3) : maskOf (p ++ [e]) a = maskOf p a := by
  refine maskOf_congr (fun x hx c => ⟨?_, c⟩) (fun x hx c => ⟨List.mem_append_left _ hx, c⟩)
  rcases List.mem_append.1 hx with q | q
  · exact q
  · simp only [List.mem_singleton] at q
    subst q
    have := (cover_iff.1 c).2.2
    omega
theorem sv_not {m : List En} {x : En} (h : x.kind ≤ 3) (hd : decidesS m x = false) : sv fs clock m x = ⟨x, 1, 0⟩ := by
  unfold sv
  rw [if_neg (by omega), if_neg (by rw [hd]; simp)]
theorem Mid.res {m r d q : List En} {l : En} {s : Sp} {V : List Vd} (h : Mid fs clock m r d l s V) (hm : m = (r ++ d) ++ q) (hs : m.Pairwise Ah) (hv : ∀ e ∈ m, Va e) (k : Int) (hk : ∀ t g, d = t :: g → t.kind = 3 → l.kind = 3 → gpE l t = true → (∀ x ∈ g, x.kind = 3) → (∀ x ∈ r, gpE x t = false) → kd m t = k) :
    Mid fs clock m (r ++ d) [] l (resolveS fs clock s k).2 (V ++ (resolveS fs clock s k).1) := by
  rcases h.wait with ⟨hw, hd⟩ | ⟨hw, t, g, hd, t3, l3, hlt, hseq, hg, hr⟩
  · subst hd
    unfold resolveS
    rw [if_neg (by rw [hw]; simp)]
    simp only [List.append_nil] at *
    exact ⟨by simpa using h.last, by simpa using h.mem, h.begun, h.lst, by simpa using h.fam, by simpa using h.mask, h.rank, h.out, .inl ⟨hw, rfl⟩⟩
  · subst hd
    have hm2 : m = r ++ t :: (g ++ q) := by rw [hm]; simp
    have tm : t ∈ m := by rw [hm2]; simp
    have lm : l ∈ m := by rw [hm]; exact List.mem_append_left _ h.mem
    have hdec : decidesS m t = true := first_decides hm2 hs hr
    obtain ⟨_, _, g3, g4, g5, g6⟩ := gpE_iff.1 hlt
    have hmask : s.mask = maskOf m t := by
      rw [h.mask, mask_part hm2 hs (by omega)]
      refine maskOf_congr (fun x hx c => ?_) (fun x hx c => ⟨List.mem_append_left _ hx, cover_of ⟨g3.symm, g4.symm, g5.symm⟩ (by omega) c⟩)
      have c2 := cover_of (b := t) ⟨g3, g4, g5⟩ (by omega) c
      have c3 := (cover_iff.1 c).2.2
      refine ⟨?_, c2⟩
      rcases List.mem_append.1 hx with z | z
      · exact z
      · exfalso
        rcases List.mem_cons.1 z with rfl | z
        · omega
        · have := (hg x z).2; omega
    have hrank : s.rank = above fs clock m t := by
      rw [h.rank, above_cnt hm2 hs hv (by omega) hr]
      exact cnt_congr ⟨g3, g4, g5⟩
    have ht : ({ s.last with seq := s.seq, kind := k } : En) = { t with kind := kd m t } := by
      rw [hk t g rfl t3 l3 hlt (fun x hx => (hg x hx).2) hr, h.lst, hseq]
      have v1 := (hv l lm).val (by omega)
      have v2 := (hv t tm).val (by omega)
      simp only [En.mk.injEq]
      exact ⟨g3, g4, g5, g6, trivial, trivial, v1.trans v2.symm⟩
    have hD := decide_sv (fs := fs) (clock := clock) (σ := { s with waiting := false }) (t := t) (by omega) hdec hmask hrank
    have hgn : ∀ x ∈ g, decidesS m x = false := fun x hx => by
      obtain ⟨g1, g2, rfl⟩ := List.append_of_mem hx
      refine later_not (r := r ++ t :: g1) (q := g2 ++ q) (l := t) (by rw [hm]; simp) hs (by simp) ?_
      have := gpE_iff.1 (hg x hx).1
      exact gpE_iff.2 ⟨by omega, by omega, this.2.2.1.symm, this.2.2.2.1.symm, this.2.2.2.2.1.symm, this.2.2.2.2.2.symm⟩
    unfold resolveS
    rw [if_pos hw, ht]
    show Mid fs clock m (r ++ t :: g) [] l (decideS fs clock { s with waiting := false } { t with kind := kd m t }).2 (V ++ [(decideS fs clock { s with waiting := false } { t with kind := kd m t }).1])
    rw [hD.1, hD.2]
    refine ⟨by simpa using h.last, by simpa using h.mem, h.begun, h.lst, by simpa using h.fam, by simpa using h.mask, ?_, ?_, .inl ⟨rfl, rfl⟩⟩
    · show s.rank + _ = _
      have e1 : r ++ t :: g = r ++ ([t] ++ g) := by simp
      rw [e1, cnt_app, cnt_app, cnt_one m t l (mates_iff.2 ⟨g3.symm, g4.symm, g5.symm⟩), cnt_zero (p := g) (fun x hx c => by have := (counts_iff.1 c).2.1; rw [hgn x hx] at this; cases this), h.rank]
      omega
    · rw [List.filter_append, h.out, List.map_append, List.filter_append, List.map_cons]
      congr 1
      have : (g.map (sv fs clock m)).filter kept = [] := by
        rw [List.filter_eq_nil_iff]
        intro v hv2
        obtain ⟨x, hx, rfl⟩ := List.mem_map.1 hv2
        rw [sv_not (by have := (hg x hx).2; omega) (hgn x hx)]
        simp [kept]
      rw [List.filter_cons, List.filter_cons, this]
      rfl
theorem Mid.fam_iff {m r d : List En} {l e : En} {s : Sp} {V : List Vd} (h : Mid fs clock m r d l s V) : sameFam s e = true ↔ l.fam = e.fam ∧ l.row = e.row := by
  unfold sameFam
  rw [h.begun, h.lst]
  simp
theorem Mid.col_iff {m r d : List En} {l e : En} {s : Sp} {V : List Vd} (h : Mid fs clock m r d l s V) : sameCol s e = true ↔ l.fam = e.fam ∧ l.row = e.row ∧ l.kind ≠ 5 ∧ l.qual = e.qual := by
  unfold sameCol
  rw [Bool.and_eq_true, Bool.and_eq_true, h.fam_iff, h.lst]
  simp [and_assoc]
theorem Mid.grpS_iff {m r d : List En} {l e : En} {s : Sp} {V : List Vd} (h : Mid fs clock m r d l s V) : sameGrp s e = true ↔ l.fam = e.fam ∧ l.row = e.row ∧ l.kind ≠ 5 ∧ l.qual = e.qual ∧ l.kind ≠ 4 ∧ l.ts = e.ts := by
  unfold sameGrp
  rw [Bool.and_eq_true, Bool.and_eq_true, h.col_iff, h.lst]
  simp [and_assoc]
theorem Mid.left {m p q : List En} {l e : En} {s : Sp} {V : List Vd} (h : Mid fs clock m p [] l s V) (f c : Bool) (hf : f = true ↔ l.fam = e.fam ∧ l.row = e.row) (hc : c = true ↔ l.fam = e.fam ∧ l.row = e.row ∧ l.kind ≠ 5 ∧ l.qual = e.qual) (hm : m = p ++ e :: q) (hs : m.Pairwise Ah) (hn : ∀ x ∈ p, gpE x e = false) : Ent fs clock m p e (leftS s f c) V := by
  have hp := List.pairwise_append.1 (hm ▸ hs)
  have hle : Ah l e := hp.2.2 l (by simpa using h.mem) e List.mem_cons_self
  have hxl : ∀ x ∈ p, x = l ∨ Ah x l := by simpa using h.last
  have hw : s.waiting = false := by rcases h.wait with z | ⟨_, t, g, z, _⟩; exact z.1; cases z
  have hF : (leftS s f c).family = maskOf p { e with kind := 5 } := by
    have e1 : (leftS s f c).family = if f then s.family else 0 := by unfold leftS; cases f <;> cases c <;> rfl
    rw [e1]
    by_cases ht : f = true
    · rw [if_pos ht, h.fam, List.append_nil]
      have := hf.1 ht
      exact maskOf_fam ⟨this.2, this.1⟩
    · rw [if_neg ht]
      refine (maskOf_zero fun x hx => ?_).symm
      cases hcv : cover x { e with kind := 5 } with
      | false => rfl
      | true =>
        have := cover_iff.1 hcv
        have := Ah.midF (hxl x hx) hle this.1 this.2.1
        exact absurd (hf.2 ⟨this.2, this.1⟩) ht
  refine ⟨?_, hF, ?_, ?_, h.out, hn⟩
  · unfold leftS; cases f <;> cases c <;> exact hw
  · have e1 : (leftS s f c).mask = if c then s.mask else (leftS s f c).family := by unfold leftS; cases f <;> cases c <;> rfl
    rw [e1, hF]
    by_cases ht : c = true
    · rw [if_pos ht, h.mask, List.append_nil]
      have := hc.1 ht
      exact maskOf_same ⟨this.2.1, this.1, this.2.2.2⟩ ⟨fun z => absurd z this.2.2.1, fun z => hle.k5 this.2.1 this.1 z⟩
    · rw [if_neg ht]
      refine maskOf_congr (fun x hx cv => ⟨hx, ?_⟩) (fun x hx cv => ⟨hx, ?_⟩)
      · have := cover_iff.1 cv
        refine cover_iff.2 ⟨this.1, this.2.1, .inl ?_⟩
        rcases this.2.2 with z | ⟨_, z, _⟩
        · exact z
        · exact absurd rfl z
      · have cc := cover_iff.1 cv
        refine cover_iff.2 ⟨cc.1, cc.2.1, .inl ?_⟩
        rcases cc.2.2 with z | ⟨z4, z5, zq⟩
        · exact z
        · exfalso
          have a := Ah.midF (hxl x hx) hle cc.1 cc.2.1
          have b := Ah.midC (hxl x hx) hle cc.1 cc.2.1 (by omega) zq
          exact ht (hc.2 ⟨a.2, a.1, b.1, b.2.1⟩)
  · have e1 : (leftS s f c).rank = if c then s.rank else 0 := by unfold leftS; cases f <;> cases c <;> rfl
    rw [e1]
    by_cases ht : c = true
    · rw [if_pos ht, h.rank]
      have := hc.1 ht
      exact cnt_congr ⟨this.2.1, this.1, this.2.2.2⟩
    · rw [if_neg ht]
      refine (cnt_zero fun x hx cn => ?_).symm
      cases hM : mates x e with
      | false => rfl
      | true =>
        exfalso
        have k3 := (counts_iff.1 cn).1
        have mm := mates_iff.1 hM
        have a := Ah.midF (hxl x hx) hle mm.1 mm.2.1
        have b := Ah.midC (hxl x hx) hle mm.1 mm.2.1 (by omega) mm.2.2
        exact ht (hc.2 ⟨a.2, a.1, b.1, b.2.1⟩)
theorem Mid.new {m r d q : List En} {l e : En} {s : Sp} {V : List Vd} (h : Mid fs clock m r d l s V) (hm : m = (r ++ d) ++ e :: q) (hs : m.Pairwise Ah) (hg : ¬ sameGrp s e = true) : ∀ x ∈ r ++ d, gpE x e = false := by
  have hp := List.pairwise_append.1 (hm ▸ hs)
  intro x hx
  cases hc : gpE x e with
  | false => rfl
  | true =>
    obtain ⟨g1, g2, g3, g4, g5, g6⟩ := gpE_iff.1 hc
    have hle : Ah l e := hp.2.2 l h.mem e List.mem_cons_self
    have a := Ah.midF (h.last x hx) hle g3 g4
    have b := Ah.midC (h.last x hx) hle g3 g4 (by omega) g5
    have c := Ah.midG (h.last x hx) hle g3 g4 g1 g5 g2 g6
    exact absurd (h.grpS_iff.2 ⟨a.2, a.1, b.1, b.2.1, c.1, c.2⟩) hg
theorem Mid.enter {m r d q : List En} {l e : En} {s : Sp} {V : List Vd} (h : Mid fs clock m r d l s V) (hm : m = (r ++ d) ++ e :: q) (hs : m.Pairwise Ah) (hv : ∀ e ∈ m, Va e) (hg : ¬ sameGrp s e = true) :
    Ent fs clock m (r ++ d) e (enterS fs clock s e).2 (V ++ (enterS fs clock s e).1) := by
  have hp := List.pairwise_append.1 (hm ▸ hs)
  have hq := List.pairwise_cons.1 hp.2.1
  have hle : Ah l e := hp.2.2 l h.mem e List.mem_cons_self
  unfold enterS
  rw [if_neg hg]
  have hk : ∀ t g, d = t :: g → t.kind = 3 → l.kind = 3 → gpE l t = true → (∀ x ∈ g, x.kind = 3) → (∀ x ∈ r, gpE x t = false) → kd m t = 3 := fun t g hd t3 l3 hlt hg3 hr => by
    unfold kd
    rw [if_neg]
    · exact t3
    · rintro ⟨_, hP⟩
      obtain ⟨x, hx, hxg, hx3⟩ := hasPut_iff.1 hP
      obtain ⟨a1, a2, a3, a4, a5, a6⟩ := gpE_iff.1 hxg
      obtain ⟨b1, b2, b3, b4, b5, b6⟩ := gpE_iff.1 hlt
      rw [hm, hd] at hx
      rcases List.mem_append.1 hx with z | z
      · rcases List.mem_append.1 z with z | z
        · rw [hr x z] at hxg; cases hxg
        · rcases List.mem_cons.1 z with rfl | z
          · exact hx3 t3
          · exact hx3 (hg3 x z)
      · rcases List.mem_cons.1 z with rfl | z
        · exact hg (h.grpS_iff.2 ⟨b4.trans a4.symm, b3.trans a3.symm, by omega, b5.trans a5.symm, by omega, b6.trans a6.symm⟩)
        · have ex := hq.1 x z
          have a := Ah.midF (.inr hle) ex (b3.trans a3.symm) (b4.trans a4.symm)
          have b := Ah.midC (.inr hle) ex (b3.trans a3.symm) (b4.trans a4.symm) (by omega) (b5.trans a5.symm)
          have c := Ah.midG (.inr hle) ex (b3.trans a3.symm) (b4.trans a4.symm) (by omega) (b5.trans a5.symm) a1 (b6.trans a6.symm)
          exact hg (h.grpS_iff.2 ⟨(b4.trans a4.symm).trans a.2.symm, (b3.trans a3.symm).trans a.1.symm, by omega, (b5.trans a5.symm).trans b.2.1.symm, by omega, (b6.trans a6.symm).trans c.2.symm⟩)
  have := (h.res hm hs hv 3 hk)
  exact Mid.left this (sameFam s e) (sameCol s e) h.fam_iff h.col_iff hm hs (h.new hm hs hg)
theorem Ent.mark {m p q : List En} {e : En} {σ : Sp} {V : List Vd} (h : Ent fs clock m p e σ V) (hm : m = p ++ e :: q) (hs : m.Pairwise Ah) (hv : ∀ e ∈ m, Va e) (hk : 4 ≤ e.kind) :
    Mid fs clock m (p ++ [e]) [] e (rememberS (stretchS σ e).2 e) (V ++ [(stretchS σ e).1]) := by
  have hp := List.pairwise_append.1 (hm ▸ hs)
  have hq := List.pairwise_cons.1 hp.2.1
  have em : e ∈ m := by rw [hm]; simp
  have cee : cover e e = true := cover_iff.2 ⟨rfl, rfl, by
    have := (hv e em).k5
    by_cases z : e.kind = 5
    · exact .inl z
    · exact .inr ⟨by omega, z, rfl⟩⟩
  have hmk : maskOf (p ++ [e]) e = if e.ts ≤ maskOf p e then maskOf p e else e.ts := by
    have h1 : maskOf p e ≤ maskOf (p ++ [e]) e := maskOf_mono fun x hx c => ⟨List.mem_append_left _ hx, c⟩
    have h2 : e.ts ≤ maskOf (p ++ [e]) e := maskOf_le (by simp) cee
    have h3 : maskOf (p ++ [e]) e ≤ maskOf p e ∨ maskOf (p ++ [e]) e ≤ e.ts := by
      rcases maskOf_att (p ++ [e]) e with z | ⟨x, hx, c, t⟩
      · left; rw [z]; exact maskOf_nn _ _
      · rcases List.mem_append.1 hx with z | z
        · left; rw [← t]; exact maskOf_le z c
        · simp only [List.mem_singleton] at z
          subst z
          right; omega
    split <;> omega
  have hfm : maskOf (p ++ [e]) { e with kind := 5 } = if e.kind = 5 ∧ ¬ e.ts ≤ maskOf p e then e.ts else maskOf p { e with kind := 5 } := by
    by_cases h5 : e.kind = 5
    · have ee : ({ e with kind := 5 } : En) = e := by rw [← h5]
      rw [ee, hmk]
      by_cases ht : e.ts ≤ maskOf p e
      · rw [if_pos ht, if_neg (by simp [ht])]
      · rw [if_neg ht, if_pos ⟨h5, ht⟩]
    · rw [if_neg (by simp [h5])]
      refine maskOf_congr (fun x hx c => ⟨?_, c⟩) (fun x hx c => ⟨List.mem_append_left _ hx, c⟩)
      rcases List.mem_append.1 hx with z | z
      · exact z
      · simp only [List.mem_singleton] at z
        subst z
        rcases (cover_iff.1 c).2.2 with y | ⟨_, y, _⟩
        · exact absurd y h5
        · exact absurd rfl y
  have hsh : shadow m e = true ↔ e.ts ≤ maskOf p e := by
    rw [shadow_iff]
    constructor
    · rintro ⟨y, hy, c, hc⟩
      have cc := cover_iff.1 c
      rw [hm] at hy
      rcases List.mem_append.1 hy with z | z
      · have := maskOf_le z c
        omega
      · exfalso
        rcases List.mem_cons.1 z with rfl | z
        · omega
        · have ha := hq.1 y z
          have k5 : y.kind = 5 → e.kind = 5 := ha.k5 cc.1.symm cc.2.1.symm
          have qe : e.qual = y.qual := by
            rcases cc.2.2 with w | ⟨_, _, w⟩
            · rw [(hv e em).qual (k5 w), (hv y (by rw [hm]; exact List.mem_append_right _ (List.mem_cons_of_mem _ z))).qual w]
            · exact w.symm
          have kk : e.kind = y.kind := by
            rcases cc.2.2 with w | ⟨w, w2, _⟩
            · rw [k5 w, w]
            · have := (hv e em).k5; omega
          have t1 := ha.ts cc.1.symm cc.2.1.symm (by omega) qe (by omega)
          rcases hc with hc | ⟨hc, hc2⟩
          · omega
          · have := ha.seq cc.1.symm cc.2.1.symm (by omega) qe (by omega) hc
            omega
    · intro ht
      rcases maskOf_att p e with z | ⟨x, hx, c, t⟩
      · have := (hv e em).ts; omega
      · have cc := cover_iff.1 c
        refine ⟨x, by rw [hm]; exact List.mem_append_left _ hx, c, ?_⟩
        by_cases hlt : e.ts < x.ts
        · exact .inl hlt
        · refine .inr ⟨by omega, ?_⟩
          have ha := hp.2.2 x hx e List.mem_cons_self
          have e5 := (hv e em).k5
          by_cases kk : x.kind = e.kind
          · right
            have qe : x.qual = e.qual := by
              rcases cc.2.2 with w | ⟨_, _, w⟩
              · rw [(hv e em).qual (by omega), (hv x (by rw [hm]; exact List.mem_append_left _ hx)).qual w]
              · exact w
            exact ha.seq cc.1 cc.2.1 (by omega) qe (by omega) (by omega)
          · left
            rcases cc.2.2 with w | ⟨w, w2, _⟩ <;> omega
  have hsv : sv fs clock m e = (stretchS σ e).1 := by
    unfold sv stretchS
    rw [if_pos hk, h.mask]
    by_cases ht : e.ts ≤ maskOf p e
    · rw [if_pos ht, if_pos (hsh.2 ht)]
    · rw [if_neg ht, if_neg (fun z => ht (hsh.1 z))]
  have hst : (stretchS σ e).2 = { σ with mask := maskOf (p ++ [e]) e, family := maskOf (p ++ [e]) { e with kind := 5 } } := by
    rw [hmk, hfm]
    unfold stretchS
    rw [h.mask]
    by_cases ht : e.ts ≤ maskOf p e
    · rw [if_pos ht, if_pos ht, if_neg (by simp [ht]), ← h.mask, ← h.fam]
    · rw [if_neg ht, if_neg ht, h.fam]
      by_cases h5 : e.kind = 5
      · simp [h5, ht]
      · simp [h5]
  rw [hst, ← hsv]
  refine ⟨?_, by simp, rfl, rfl, by rw [List.append_nil]; rfl, by rw [List.append_nil]; rfl, ?_, ?_, .inl ⟨h.wait, rfl⟩⟩
  · intro x hx
    rw [List.append_nil] at hx
    rcases List.mem_append.1 hx with z | z
    · exact .inr (hp.2.2 x z e List.mem_cons_self)
    · exact .inl (by simpa using z)
  · show σ.rank = _
    rw [h.rank, cnt_app, cnt_zero (p := [e]) (fun x hx c => by
      simp only [List.mem_singleton] at hx
      subst hx
      have := (counts_iff.1 c).1
      omega)]
    omega
  · rw [List.filter_append, h.out, List.map_append, List.filter_append]
    rfl
theorem Ent.last {m p q : List En} {e : En} (hm : m = p ++ e :: q) (hs : m.Pairwise Ah) : ∀ x ∈ p ++ [e], x = e ∨ Ah x e := by
  have hp := List.pairwise_append.1 (hm ▸ hs)
  intro x hx
  rcases List.mem_append.1 hx with z | z
  · exact .inr (hp.2.2 x z e List.mem_cons_self)
  · exact .inl (by simpa using z)
theorem Ent.put {m p q : List En} {e : En} {σ : Sp} {V : List Vd} (h : Ent fs clock m p e σ V) (hm : m = p ++ e :: q) (hs : m.Pairwise Ah) (hv : ∀ e ∈ m, Va e) (hk : e.kind ≤ 3) (h3 : e.kind ≠ 3) :
    Mid fs clock m (p ++ [e]) [] e (rememberS (decideS fs clock σ e).2 e) (V ++ [(decideS fs clock σ e).1]) := by
  have hkd : ({ e with kind := kd m e } : En) = e := by unfold kd; rw [if_neg (by simp [h3])]
  have hD := decide_sv (fs := fs) (clock := clock) (σ := σ) (t := e) hk (first_decides hm hs h.new) (by rw [h.mask, mask_part hm hs hk]) (by rw [h.rank, above_cnt hm hs hv hk h.new])
  rw [hkd] at hD
  rw [hD.1, hD.2]
  refine ⟨by simpa using Ent.last hm hs, by simp, rfl, rfl, ?_, ?_, ?_, ?_, .inl ⟨h.wait, rfl⟩⟩
  · show σ.family = _
    rw [List.append_nil, maskOf_snoc_v hk, h.fam]
  · show σ.mask = _
    rw [List.append_nil, maskOf_snoc_v hk, h.mask]
  · show σ.rank + _ = _
    rw [cnt_app, cnt_one m e e (mates_iff.2 ⟨rfl, rfl, rfl⟩), h.rank]
  · rw [List.filter_append, h.out, List.map_append, List.filter_append]
    rfl
theorem Ent.cell {m p q : List En} {e : En} {σ : Sp} {V : List Vd} (h : Ent fs clock m p e σ V) (hm : m = p ++ e :: q) (hs : m.Pairwise Ah) (h3 : e.kind = 3) :
    Mid fs clock m p [e] e (rememberS { σ with waiting := true, seq := e.seq } e) V := by
  refine ⟨Ent.last hm hs, by simp, rfl, rfl, ?_, ?_, ?_, h.out, .inr ⟨rfl, e, [], rfl, h3, h3, gpE_iff.2 ⟨by omega, by omega, rfl, rfl, rfl, rfl⟩, rfl, by simp, h.new⟩⟩
  · show σ.family = _
    rw [maskOf_snoc_v (by omega), h.fam]
  · show σ.mask = _
    rw [maskOf_snoc_v (by omega), h.mask]
  · show σ.rank = _
    exact h.rank
theorem Mid.more {m r d q : List En} {l e : En} {s : Sp} {V : List Vd} (h : Mid fs clock m r d l s V) (hm : m = (r ++ d) ++ e :: q) (hs : m.Pairwise Ah) (hv : ∀ e ∈ m, Va e) (hg : sameGrp s e = true) (hk : e.kind ≤ 3) :
    gpE l e = true ∧ decidesS m e = false := by
  have g := h.grpS_iff.1 hg
  have lm : l ∈ m := by rw [hm]; exact List.mem_append_left _ h.mem
  have k5 := (hv l lm).k5
  have hgr : gpE l e = true := gpE_iff.2 ⟨by omega, hk, g.2.1, g.1, g.2.2.2.1, g.2.2.2.2.2⟩
  exact ⟨hgr, later_not hm hs h.mem hgr⟩
theorem Mid.fams {m r d q : List En} {l e : En} {s : Sp} {V : List Vd} (h : Mid fs clock m r d l s V) (hgr : gpE l e = true) : s.family = maskOf (r ++ d ++ [e]) { e with kind := 5 } ∧ s.mask = maskOf (r ++ d ++ [e]) e ∧ s.rank = cnt fs clock m r e := by
  obtain ⟨g1, g2, g3, g4, g5, g6⟩ := gpE_iff.1 hgr
  refine ⟨?_, ?_, ?_⟩
  · rw [h.fam, maskOf_snoc_v g2]
    exact maskOf_fam ⟨g3, g4⟩
  · rw [h.mask, maskOf_snoc_v g2]
    exact maskOf_same ⟨g3, g4, g5⟩ (by omega)
  · rw [h.rank]
    exact cnt_congr ⟨g3, g4, g5⟩
theorem Mid.older {m p q : List En} {l e : En} {s : Sp} {V : List Vd} (h : Mid fs clock m p [] l s V) (hm : m = p ++ e :: q) (hs : m.Pairwise Ah) (hgr : gpE l e = true) (hd : decidesS m e = false) :
    Mid fs clock m (p ++ [e]) [] e (rememberS s e) (V ++ [⟨e, 1, 0⟩]) := by
  have hk := (gpE_iff.1 hgr).2.1
  obtain ⟨f1, f2, f3⟩ := h.fams (q := q) hgr
  rw [List.append_nil] at f1 f2
  refine ⟨by simpa using Ent.last hm hs, by simp, rfl, rfl, by rw [List.append_nil]; exact f1, by rw [List.append_nil]; exact f2, ?_, ?_, ?_⟩
  · show s.rank = _
    rw [f3, cnt_app, cnt_zero (p := [e]) (fun x hx c => by
      simp only [List.mem_singleton] at hx
      subst hx
      have := (counts_iff.1 c).2.1
      rw [hd] at this
      cases this)]
    omega
  · rw [List.filter_append, h.out, List.map_append, List.filter_append, List.map_cons, List.map_nil, sv_not hk hd]
  · rcases h.wait with z | ⟨_, t, g, z, _⟩
    · exact .inl z
    · cases z
theorem Mid.step {m r d q : List En} {l e : En} {s : Sp} {V : List Vd} (h : Mid fs clock m r d l s V) (hm : m = (r ++ d) ++ e :: q) (hs : m.Pairwise Ah) (hv : ∀ e ∈ m, Va e) :
    ∃ r' d', r' ++ d' = (r ++ d) ++ [e] ∧ Mid fs clock m r' d' e (stepS fs clock s e).2 (V ++ (stepS fs clock s e).1) := by
  have em : e ∈ m := by rw [hm]; simp
  have hp := List.pairwise_append.1 (hm ▸ hs)
  have hle : Ah l e := hp.2.2 l h.mem e List.mem_cons_self
  have ve := hv e em
  have k1 := ve.k1
  have k5 := ve.k5
  by_cases hmk : e.kind = 5 ∨ e.kind = 4
  · have hng : ¬ sameGrp s e = true := fun z => by
      have g := h.grpS_iff.1 z
      rcases hmk with y | y
      · exact g.2.2.1 (hle.k5 g.2.1 g.1 y)
      · exact g.2.2.2.2.1 (hle.k4 g.2.1 g.1 (by omega) g.2.2.2.1 y)
    have hE := (h.enter hm hs hv hng).mark hm hs hv (by omega)
    refine ⟨r ++ d ++ [e], [], List.append_nil _, ?_⟩
    unfold stepS
    rw [if_pos hmk, ← List.append_assoc]
    exact hE
  · have hk3 : e.kind ≤ 3 := by omega
    by_cases hg : sameGrp s e = true
    · obtain ⟨hgr, hde⟩ := h.more hm hs hv hg hk3
      unfold stepS
      rw [if_neg hmk, if_pos hg]
      have hen : enterS fs clock s e = ([], s) := by unfold enterS; rw [if_pos hg]
      rw [hen]
      by_cases h3 : e.kind = 3
      · rw [if_neg (by simp [h3])]
        rcases h.wait with ⟨hw, hd⟩ | ⟨hw, t, g, hd, t3, l3, hlt, hseq, hgg, hr⟩
        · subst hd
          refine ⟨(r ++ []) ++ [e], [], by simp, ?_⟩
          have := Mid.older (p := r) (q := q) h (by rw [hm]; simp) hs hgr hde
          simpa using this
        · refine ⟨r, d ++ [e], by simp, ?_⟩
          obtain ⟨f1, f2, f3⟩ := h.fams (q := q) hgr
          have hl := Ent.last hm hs
          obtain ⟨a1, a2, a3, a4, a5, a6⟩ := gpE_iff.1 hlt
          obtain ⟨b1, b2, b3, b4, b5, b6⟩ := gpE_iff.1 hgr
          have het : gpE e t = true := gpE_iff.2 ⟨by omega, by omega, b3.symm.trans a3, b4.symm.trans a4, b5.symm.trans a5, b6.symm.trans a6⟩
          refine ⟨by rw [← List.append_assoc]; exact hl, by simp, rfl, rfl, by rw [← List.append_assoc]; exact f1, by rw [← List.append_assoc]; exact f2, f3, ?_, .inr ⟨hw, t, g ++ [e], by rw [hd]; rfl, t3, h3, het, hseq, ?_, hr⟩⟩
          · rw [List.filter_append, h.out]
            simp [kept]
          · intro x hx
            rcases List.mem_append.1 hx with z | z
            · exact hgg x z
            · simp only [List.mem_singleton] at z
              subst z
              exact ⟨het, h3⟩
      · rw [if_pos h3]
        have hk : ∀ t g, d = t :: g → t.kind = 3 → l.kind = 3 → gpE l t = true → (∀ x ∈ g, x.kind = 3) → (∀ x ∈ r, gpE x t = false) → kd m t = 2 := fun t g hd t3 l3 hlt hg3 hr => by
          obtain ⟨a1, a2, a3, a4, a5, a6⟩ := gpE_iff.1 hlt
          obtain ⟨b1, b2, b3, b4, b5, b6⟩ := gpE_iff.1 hgr
          unfold kd
          rw [if_pos]
          exact ⟨t3, hasPut_iff.2 ⟨e, em, gpE_iff.2 ⟨by omega, by omega, b3.symm.trans a3, b4.symm.trans a4, b5.symm.trans a5, b6.symm.trans a6⟩, h3⟩⟩
        have hR := h.res hm hs hv 2 hk
        have := Mid.older (q := q) hR hm hs hgr hde
        refine ⟨r ++ d ++ [e], [], List.append_nil _, ?_⟩
        simpa using this
    · have hE := h.enter hm hs hv hg
      unfold stepS
      rw [if_neg hmk, if_neg hg]
      by_cases h3 : e.kind = 3
      · rw [if_pos h3]
        exact ⟨_, [e], rfl, hE.cell hm hs h3⟩
      · rw [if_neg h3, ← List.append_assoc]
        exact ⟨r ++ d ++ [e], [], List.append_nil _, hE.put hm hs hv hk3 h3⟩
theorem first_step {m q : List En} {e : En} (hm : m = e :: q) (hs : m.Pairwise Ah) (hv : ∀ e ∈ m, Va e) :
    ∃ r' d', r' ++ d' = [e] ∧ Mid fs clock m r' d' e (stepS fs clock Sp.zero e).2 (stepS fs clock Sp.zero e).1 := by
  have em : e ∈ m := by rw [hm]; simp
  have k5 := (hv e em).k5
  have hg : ¬ sameGrp Sp.zero e = true := by simp [sameGrp, sameCol, sameFam, Sp.zero]
  have hen : enterS fs clock Sp.zero e = ([], Sp.zero) := by
    unfold enterS
    rw [if_neg hg]
    simp [resolveS, Sp.zero, leftS, sameFam, sameCol]
  have hE : Ent fs clock m [] e Sp.zero [] := ⟨rfl, rfl, rfl, rfl, rfl, by simp⟩
  unfold stepS
  rw [hen]
  by_cases hmk : e.kind = 5 ∨ e.kind = 4
  · rw [if_pos hmk]
    exact ⟨_, [], by simp, hE.mark hm hs hv (by omega)⟩
  · rw [if_neg hmk, if_neg hg]
    by_cases h3 : e.kind = 3
    · rw [if_pos h3]
      exact ⟨[], [e], rfl, hE.cell hm hs h3⟩
    · rw [if_neg h3]
      exact ⟨_, [], by simp, hE.put hm hs hv (by omega) h3⟩
theorem Mid.walk {m : List En} (hs : m.Pairwise Ah) (hv : ∀ e ∈ m, Va e) : ∀ (q : List En) {r d : List En} {l : En} {s : Sp} {V : List Vd}, Mid fs clock m r d l s V → m = (r ++ d) ++ q → ∃ r' d' l', r' ++ d' = m ∧ Mid fs clock m r' d' l' (walkS fs clock s q).2 (V ++ (walkS fs clock s q).1)
  | [], r, d, l, s, V, h, hm => ⟨r, d, l, by rw [hm, List.append_nil], by simpa [walkS] using h⟩
  | e :: q, r, d, l, s, V, h, hm => by
    obtain ⟨r1, d1, e1, h1⟩ := h.step hm hs hv
    obtain ⟨r2, d2, l2, e2, h2⟩ := Mid.walk hs hv q h1 (by rw [e1, hm]; simp)
    refine ⟨r2, d2, l2, e2, ?_⟩
    rw [List.append_assoc] at h2
    exact h2
theorem verdicts_spec {m : List En} (hs : m.Pairwise Ah) (hv : ∀ e ∈ m, Va e) : (verdictsS fs clock m).filter kept = (m.map (sv fs clock m)).filter kept := by
  cases m with
  | nil => simp [verdictsS, walkS, resolveS, Sp.zero]
  | cons e q =>
    obtain ⟨r, d, e1, h1⟩ := first_step (fs := fs) (clock := clock) rfl hs hv
    obtain ⟨r2, d2, l2, e2, h2⟩ := Mid.walk hs hv q h1 (by rw [e1]; rfl)
    have h3 := h2.res (q := []) (by rw [e2, List.append_nil]) hs hv 3 (fun t g hd t3 l3 hlt hg3 hr => by
      unfold kd
      rw [if_neg]
      · exact t3
      · rintro ⟨_, hP⟩
        obtain ⟨x, hx, hxg, hx3⟩ := hasPut_iff.1 hP
        rw [← e2, hd] at hx
        rcases List.mem_append.1 hx with z | z
        · rw [hr x z] at hxg; cases hxg
        · rcases List.mem_cons.1 z with rfl | z
          · exact hx3 t3
          · exact hx3 (hg3 x z))
    rw [e2] at h3
    exact h3.out
end
end Go.Proofs.YthhkpkfpifllkaaGreat

namespace Go.Proofs.YthhkpkfpifllkaaGreat
open Go.RowKit
set_option linter.unusedVariables false

/-! ### Trees of entries -/
inductive BT where
  | leaf
  | node (l : BT) (e : EntD) (r : BT)
def BT.ht : BT → Nat
  | .leaf => 0
  | .node l _ r => 1 + max l.ht r.ht
def BT.ord : BT → List EntD
  | .leaf => []
  | .node l e r => l.ord ++ e :: r.ord
def BT.size (t : BT) : Nat := t.ord.length
def balS (l : BT) (e : EntD) (r : BT) : BT :=
  if r.ht + 1 < l.ht then
    match l with
    | .leaf => .node l e r
    | .node ll le lr =>
      if ll.ht < lr.ht then
        match lr with
        | .leaf => .node ll le (.node lr e r)
        | .node ml me mr => .node (.node ll le ml) me (.node mr e r)
      else .node ll le (.node lr e r)
  else if l.ht + 1 < r.ht then
    match r with
    | .leaf => .node l e r
    | .node rl re rr =>
      if rr.ht < rl.ht then
        match rl with
        | .leaf => .node (.node l e rl) re rr
        | .node ml me mr => .node (.node l e ml) me (.node mr re rr)
      else .node (.node l e rl) re rr
  else .node l e r
def hangS (x : EntD) : BT → BT
  | .leaf => .node .leaf x .leaf
  | .node l e r => if compareS x e < 0 then balS (hangS x l) e r else balS l e (hangS x r)
def Srt (l : List EntD) : Prop := l.Pairwise fun a b => compareS a b < 0
theorem cmp_lt_trans {a b c : EntD} (h : compareS a b < 0) (k : compareS b c < 0) : compareS a c < 0 := by
  have := compareS_tri a b c
  unfold Tri at this
  omega
/-! ### Where they lie -/
structure KpG (G : Nat → Prop) (w w' : World) : Prop where
  size : w.heap.size ≤ w'.heap.size
  block : ∀ i, i < w.heap.size → G i → w'.heap[i]? = w.heap[i]?
theorem KpG.refl (G : Nat → Prop) (w : World) : KpG G w w := ⟨Nat.le_refl _, fun _ _ _ => rfl⟩
def RdG (G : Nat → Prop) (w : World) (v : Value) (bs : List Nat) : Prop := Rd w v bs ∧ ∀ b off m c, v = .slice (some ⟨b, off, none⟩) m c → 0 < m → G b ∧ ∃ cur fr, w.heap[b]? = some (.cells cur 5 fr)
theorem RdG.kept {G : Nat → Prop} {w w' : World} {v : Value} {bs : List Nat} (h : RdG G w v bs) (hk : KpG G w w') : RdG G w' v bs := by
  obtain ⟨⟨h1, a, cap, rfl, h3, h4, h5, h6, h7⟩, hg⟩ := h
  refine ⟨⟨h1, a, cap, rfl, h3, h4, h5, h6, ?_⟩, fun b off m c e hm => ?_⟩
  · rcases h7 with h7 | ⟨b, off, rfl, hc⟩
    · exact .inl h7
    · by_cases h0 : bs = []
      · exact .inl h0
      · refine .inr ⟨b, off, rfl, fun i hi => ?_⟩
        rw [World.cell?_of_block (w := w) (a := ⟨b, off + i, none⟩) (hk.block b (World.block_lt_of_cell? w _ (hc i hi)) (hg b off _ _ rfl (by omega)).1)]
        exact hc i hi
  · obtain ⟨h8, cur, fr, h9⟩ := hg b off m c e hm
    exact ⟨h8, cur, fr, (hk.block b (Array.getElem?_eq_some_iff.1 h9).1 h8).trans h9⟩
theorem RdG.mono {G G' : Nat → Prop} {w : World} {v : Value} {bs : List Nat} (h : RdG G w v bs) (hg : ∀ i, G i → G' i) : RdG G' w v bs := ⟨h.1, fun b off m c e hm => ⟨hg b (h.2 b off m c e hm).1, (h.2 b off m c e hm).2⟩⟩
theorem RdG.of_own {G : Nat → Prop} {w : World} {B : Nat} {v : Value} {m : Nat} {bs : List Nat} (h : Own w B v m bs) (hb : Bys bs) (hl : m ≤ 281474976710656) (hG : ∀ i, B ≤ i → G i) : RdG G w v bs := by
  refine ⟨h.rd hb hl, fun b off k c e hk => ?_⟩
  rcases h.2.2 with ⟨rfl, rfl⟩ | ⟨g, cap, cur, rfl, hB, hcur, _⟩
  · cases e
  · cases e; exact ⟨hG _ hB, cur, _, hcur⟩
def KU (w w' : World) : Prop := ∀ (i : Nat) (cur : Array Value) (fr : Nat × Nat), w.heap[i]? = some (.cells cur 5 fr) → w'.heap[i]? = some (.cells cur 5 fr)
theorem KU.trans {a b c : World} (h : KU a b) (k : KU b c) : KU a c := fun i cur fr hi => k i cur fr (h i cur fr hi)
theorem KU.of {w w' : World} (h : Below w.heap.size w w') : KU w w' := fun i cur fr hi => (h.block i (Array.getElem?_eq_some_iff.1 hi).1).trans hi
theorem KU.grown {w w' : World} {row : Option Nat} (hg : w.grownBy w' row) (hr : ∀ r, row = some r → ∃ cs t fr, w.heap[r]? = some (.cells cs t fr) ∧ t ≠ 5) : KU w w' := fun j cur fr hj =>
  (hg.block j (Array.getElem?_eq_some_iff.1 hj).1 (fun e => by
    obtain ⟨cs, t, fr', h1, h2⟩ := hr j e.symm
    rw [h1] at hj; cases hj; exact h2 rfl)).trans hj
def EOk (G : Nat → Prop) (w : World) (e : EntD) : Prop := RdG G w e.vr e.row ∧ RdG G w e.vq e.qual ∧ RdG G w e.vv e.val
theorem EOk.kept {G : Nat → Prop} {w w' : World} {e : EntD} (h : EOk G w e) (hk : KpG G w w') : EOk G w' e := ⟨h.1.kept hk, h.2.1.kept hk, h.2.2.kept hk⟩
theorem EOk.mono {G G' : Nat → Prop} {w : World} {e : EntD} (h : EOk G w e) (hg : ∀ i, G i → G' i) : EOk G' w e := ⟨h.1.mono hg, h.2.1.mono hg, h.2.2.mono hg⟩

def nodeC (e : EntD) (l r : Option Addr) (h : Nat) : Array Value := #[e.vr, .int .i64 e.fam, e.vq, .int .i64 e.ts, .int .i64 e.seq, .int .i64 e.kind, e.vv, .pointer l, .pointer r, .int .i64 (h : Int)]
end Go.Proofs.YthhkpkfpifllkaaGreat

namespace Go.Proofs.YthhkpkfpifllkaaGreat
open Go.RowKit
set_option linter.unusedVariables false

section
variable {P : Program} {ops : Array Oper} {Q : Exit → Act → World → Prop} {md : Region.Mode} {S : World → Prop} {E : Nat → Bool}

def AnyE (P : Program) (md : Region.Mode) (ops : Array Oper) (Q : Exit → Act → World → Prop) (S : World → Prop) (E : Nat → Bool) : Nat → Array Bool → Act → World → Prop
  | 0, listed, a, w => Region.ready md ops listed = [] ∧ Q .normal a w
  | fuel + 1, listed, a, w => (Region.ready md ops listed = [] → Q .normal a w) ∧
    ∀ i ∈ Region.ready md ops listed, wpOp P ops Q i (fun a' w' => (E i = true → S w') ∧ AnyE P md ops Q S E fuel (listed.setIfInBounds i true) a' w') a w
theorem AnyE.any : ∀ (fuel : Nat) (listed : Array Bool) (a : Act) (w : World), AnyE P md ops Q S E fuel listed a w → wpAny P md ops Q fuel listed a w
  | 0, _, _, _, h => h
  | fuel + 1, _, _, _, h => ⟨h.1, fun i hi => wpOp_mono (fun a' w' k => AnyE.any fuel _ a' w' k.2) (h.2 i hi)⟩
theorem wp_region_anyE {id : Nat} {a : Act} {w : World} (hm : P.follows .mixedOrders = true) (h : AnyE P .any ops Q S E ops.size (Array.replicate ops.size false) a w.drew) : (Code.region id ops true).wp P Q a w := wp_region_any hm (AnyE.any _ _ _ _ h)
def eFree (md : Region.Mode) (ops : Array Oper) (listed : Array Bool) (i : Nat) (E : Nat → Bool) : Bool :=
  (List.range ops.size).all fun j => j == i || listed.getD j true || E j || (match ops[j]? with
    | none => true
    | some oj => oj.after.any fun e => Region.binds md e && e.on == i)
theorem eFree_spec {i : Nat} {listed : Array Bool} (h : eFree md ops listed i E = true) (j : Nat) (oj : Oper) (hj : ops[j]? = some oj) (hne : j ≠ i) (hun : listed.getD j true = false) (hno : ∀ e ∈ oj.after, Region.binds md e = true → e.on ≠ i) : E j = true := by
  have hlt : j < ops.size := (Array.getElem?_eq_some_iff.1 hj).1
  have := List.all_eq_true.1 h j (List.mem_range.2 hlt)
  simp only [hj, Bool.or_eq_true, beq_iff_eq, hne, hun, false_or] at this
  rcases this with (h1 | h1) | h1
  · cases h1
  · exact h1
  · obtain ⟨k, hk, he⟩ := Array.any_eq_true.1 h1
    simp only [Bool.and_eq_true, beq_iff_eq] at he
    exact absurd he.2 (hno _ (Array.getElem_mem hk) he.1)
theorem AnyE.first {i : Nat} {oi : Oper} {v : Value} (hi : ops[i]? = some oi) (hs : Region.noSelect ops = true) (hQ : ∀ c a w, Q (.panic c) (a.put oi.dst v) w → Q (.panic c) a w) : ∀ (fuel : Nat) (listed : Array Bool) (a : Act) (w : World),
    (∀ j oj, ops[j]? = some oj → j ≠ i → listed.getD j true = false → (∀ e ∈ oj.after, Region.binds md e = true → e.on ≠ i) → oi.apart ops oj = true ∧ E j = true) →
    i ∈ Region.ready md ops listed → YieldsIf P ops S oi v a → S w → AnyE P md ops Q S E fuel (listed.setIfInBounds i true) (a.put oi.dst v) w → AnyE P md ops Q S E (fuel + 1) listed a w := by
  intro fuel
  have sel := Region.noSelect_spec hs
  induction fuel with
  | zero =>
    intro listed a w _ hr hy hS H
    refine ⟨fun h => (by rw [h] at hr; cases hr), fun j hj => ?_⟩
    rcases Decidable.em (j = i) with rfl | hne
    · exact hy.wpOp hi hS ⟨fun _ => hS, H⟩
    · have k := ready_mono hj hne
      rw [H.1] at k; cases k
  | succ fuel ih =>
    intro listed a w hf hr hy hS H
    refine ⟨fun h => (by rw [h] at hr; cases hr), fun j hj => ?_⟩
    rcases Decidable.em (j = i) with rfl | hne
    · exact hy.wpOp hi hS ⟨fun _ => hS, H⟩
    · obtain ⟨hun, oj, hoj, hall⟩ := mem_ready.1 hj
      have hno : ∀ e ∈ oj.after, Region.binds md e = true → e.on ≠ i := fun e he hb heq => by
        have k1 := hall e he hb
        have k0 := (mem_ready.1 hr).1
        rw [heq] at k1
        by_cases hlt : i < listed.size
        · simp [hlt] at k0 k1; rw [k0] at k1; cases k1
        · simp [Array.getElem?_eq_none (Nat.le_of_not_lt hlt)] at k1
      obtain ⟨hap, hEj⟩ := hf j oj hoj hne hun hno
      refine wpOp_mono (fun a' w' h3 => ⟨h3.2.1, ?_⟩) (wpOp_putIf hoj hap (fun cs b => sel i oi cs b hi) (fun cs b => sel j oj cs b hoj) hQ hy (H.2 j (ready_mono hj hne)))
      refine ih (listed.setIfInBounds j true) a' w' (fun k ok hk hki hun' hno' => hf k ok hk hki ?_ hno') (ready_mono hr (Ne.symm hne)) h3.1 (h3.2.1 hEj) ?_
      · rcases Decidable.em (j = k) with rfl | e
        · exact hun
        · rwa [getD_set_ne true e] at hun'
      · rw [Array.setIfInBounds_comm _ _ hne]; exact h3.2.2
theorem AnyE.take {i : Nat} {oi : Oper} {fuel : Nat} {listed : Array Bool} {a : Act} {w : World} (v : Value) (hi : ops[i]? = some oi) (hs : Region.noSelect ops = true) (hf : Region.free md ops listed i = true) (he : eFree md ops listed i E = true) (hr : (Region.ready md ops listed).contains i = true)
    (hQ : ∀ c a w, Q (.panic c) (a.put oi.dst v) w → Q (.panic c) a w) (hy : YieldsIf P ops S oi v a) (hS : S w) (h : AnyE P md ops Q S E fuel (listed.setIfInBounds i true) (a.put oi.dst v) w) : AnyE P md ops Q S E (fuel + 1) listed a w :=
  AnyE.first hi hs hQ fuel listed a w (fun j oj hj hne hun hno => ⟨Region.free_spec hi hf j oj hj hne hun hno, eFree_spec he j oj hj hne hun hno⟩) (by simpa using hr) hy hS h
theorem AnyE.one {i : Nat} {o : Oper} {fuel : Nat} {listed : Array Bool} {a : Act} {w : World} (ho : ops[i]? = some o) (hr : Region.ready md ops listed = [i]) (hw : Region.wanted o (yielded ops a.tmps) = true)
    (h : ∀ K : Act → World → Prop, Hid (∀ a' w', ((E i = true → S w') ∧ AnyE P md ops Q S E fuel (listed.setIfInBounds i true) a' w') → K a' w') → Oper.wp P o a w K Q) : AnyE P md ops Q S E (fuel + 1) listed a w :=
  ⟨fun k => (by rw [hr] at k; cases k), fun j hj => by
    rw [hr] at hj
    obtain rfl : j = i := by simpa using hj
    exact wpOp_step ho (fun K' hK => by rw [if_pos hw]; exact h K' hK)⟩
theorem AnyE.done {listed : Array Bool} {a : Act} {w : World} (hr : Region.ready md ops listed = []) (h : Q .normal a w) : ∀ fuel, AnyE P md ops Q S E fuel listed a w
  | 0 => ⟨hr, h⟩
  | _ + 1 => ⟨fun _ => h, by rw [hr]; simp⟩
end
end Go.Proofs.YthhkpkfpifllkaaGreat
