import Derived.Test.YtemdhpjoakldhaaJ18
namespace Go.Proofs.Ytemdhpjoakldhaa
open Go.RowKit
set_option linter.unusedVariables false

theorem ordC_mid (x l e : List Nat) (h : ordC x l ≤ 0) (k : ordC l e ≤ 0) (he : x = e) : l = e := by
  subst he
  have := ordC_swap x l
  exact (ordC_eq _ _ (by omega)).symm
/-- Ahead in THE ORDER, of entries with Seqs of their own. -/
structure Ah (a b : En) : Prop where
  row : ordC a.row b.row ≤ 0
  fam : a.row = b.row → a.fam ≤ b.fam
  k5 : a.row = b.row → a.fam = b.fam → b.kind = 5 → a.kind = 5
  qual : a.row = b.row → a.fam = b.fam → (a.kind = 5 ↔ b.kind = 5) → ordC a.qual b.qual ≤ 0
  k4 : a.row = b.row → a.fam = b.fam → (a.kind = 5 ↔ b.kind = 5) → a.qual = b.qual → b.kind = 4 → a.kind = 4
  ts : a.row = b.row → a.fam = b.fam → (a.kind = 5 ↔ b.kind = 5) → a.qual = b.qual → (a.kind = 4 ↔ b.kind = 4) → b.ts ≤ a.ts
  seq : a.row = b.row → a.fam = b.fam → (a.kind = 5 ↔ b.kind = 5) → a.qual = b.qual → (a.kind = 4 ↔ b.kind = 4) → a.ts = b.ts → b.seq < a.seq
/-- A valid entry's values. -/
structure Va (e : En) : Prop where
  k1 : 1 ≤ e.kind
  k5 : e.kind ≤ 5
  ts : 1 ≤ e.ts
  val : e.kind ≠ 1 → e.val = []
  qual : e.kind = 5 → e.qual = []
theorem Ah.midF {x l e : En} (h : x = l ∨ Ah x l) (k : Ah l e) (hr : x.row = e.row) (hf : x.fam = e.fam) : l.row = e.row ∧ l.fam = e.fam := by
  rcases h with rfl | h
  · exact ⟨hr, hf⟩
  · have r := ordC_mid _ _ _ h.row k.row hr
    have f1 := h.fam (hr.trans r.symm)
    have f2 := k.fam r
    exact ⟨r, by omega⟩
theorem Ah.midC {x l e : En} (h : x = l ∨ Ah x l) (k : Ah l e) (hr : x.row = e.row) (hf : x.fam = e.fam) (h5 : x.kind ≠ 5) (hq : x.qual = e.qual) : l.kind ≠ 5 ∧ l.qual = e.qual ∧ e.kind ≠ 5 := by
  obtain ⟨r, f⟩ := Ah.midF h k hr hf
  rcases h with rfl | h
  · exact ⟨h5, hq, fun z => h5 (k.k5 r f z)⟩
  · have l5 : l.kind ≠ 5 := fun z => h5 (h.k5 (hr.trans r.symm) (hf.trans f.symm) z)
    have e5 : e.kind ≠ 5 := fun z => l5 (k.k5 r f z)
    exact ⟨l5, ordC_mid _ _ _ (h.qual (hr.trans r.symm) (hf.trans f.symm) (by omega)) (k.qual r f (by omega)) hq, e5⟩
theorem Ah.midG {x l e : En} (h : x = l ∨ Ah x l) (k : Ah l e) (hr : x.row = e.row) (hf : x.fam = e.fam) (h3 : x.kind ≤ 3) (hq : x.qual = e.qual) (e3 : e.kind ≤ 3) (ht : x.ts = e.ts) : l.kind ≠ 4 ∧ l.ts = e.ts := by
  obtain ⟨r, f⟩ := Ah.midF h k hr hf
  obtain ⟨l5, q, e5⟩ := Ah.midC h k hr hf (by omega) hq
  rcases h with rfl | h
  · exact ⟨by omega, ht⟩
  · have l4 : l.kind ≠ 4 := fun z => by have := h.k4 (hr.trans r.symm) (hf.trans f.symm) (by omega) (hq.trans q.symm) z; omega
    have t1 := h.ts (hr.trans r.symm) (hf.trans f.symm) (by omega) (hq.trans q.symm) (by omega)
    have t2 := k.ts r f (by omega) q (by omega)
    exact ⟨l4, by omega⟩
def mates (x e : En) : Bool := decide (x.row = e.row ∧ x.fam = e.fam ∧ x.qual = e.qual)
theorem mates_iff {x e : En} : mates x e = true ↔ x.row = e.row ∧ x.fam = e.fam ∧ x.qual = e.qual := by simp [mates]
/-- Does a mark x stand over what is e? -/
def cover (x e : En) : Bool := decide (x.row = e.row ∧ x.fam = e.fam ∧ (x.kind = 5 ∨ x.kind = 4 ∧ e.kind ≠ 5 ∧ x.qual = e.qual))
theorem cover_iff {x e : En} : cover x e = true ↔ x.row = e.row ∧ x.fam = e.fam ∧ (x.kind = 5 ∨ x.kind = 4 ∧ e.kind ≠ 5 ∧ x.qual = e.qual) := by simp [cover]
def maskOf (m : List En) (e : En) : Int := m.foldr (fun x r => if cover x e then max x.ts r else r) 0
theorem maskOf_cons (x : En) (m : List En) (e : En) : maskOf (x :: m) e = if cover x e then max x.ts (maskOf m e) else maskOf m e := rfl
theorem maskOf_nn (m : List En) (e : En) : 0 ≤ maskOf m e := by
  induction m with
  | nil => exact Int.le_refl _
  | cons x m ih => rw [maskOf_cons]; split <;> omega
theorem maskOf_le {m : List En} {e x : En} (hx : x ∈ m) (hc : cover x e = true) : x.ts ≤ maskOf m e := by
  induction m with
  | nil => cases hx
  | cons y m ih =>
    rw [maskOf_cons]
    rcases List.mem_cons.1 hx with rfl | hx
    · rw [if_pos hc]; omega
    · have := ih hx
      split <;> omega
theorem maskOf_att (m : List En) (e : En) : maskOf m e = 0 ∨ ∃ x ∈ m, cover x e = true ∧ x.ts = maskOf m e := by
  induction m with
  | nil => exact .inl rfl
  | cons y m ih =>
    rw [maskOf_cons]
    by_cases hc : cover y e = true
    · rw [if_pos hc]
      by_cases hm : maskOf m e ≤ y.ts
      · exact .inr ⟨y, List.mem_cons_self, hc, by omega⟩
      · rcases ih with h | ⟨x, hx, c, t⟩
        · exact .inl (by omega)
        · exact .inr ⟨x, List.mem_cons_of_mem _ hx, c, by omega⟩
    · rw [if_neg hc]
      rcases ih with h | ⟨x, hx, c, t⟩
      · exact .inl h
      · exact .inr ⟨x, List.mem_cons_of_mem _ hx, c, t⟩
theorem maskOf_mono {m m' : List En} {e e' : En} (h : ∀ x ∈ m, cover x e = true → x ∈ m' ∧ cover x e' = true) : maskOf m e ≤ maskOf m' e' := by
  rcases maskOf_att m e with h0 | ⟨x, hx, c, t⟩
  · rw [h0]; exact maskOf_nn _ _
  · rw [← t]; exact maskOf_le (h x hx c).1 (h x hx c).2
theorem maskOf_congr {m m' : List En} {e e' : En} (h : ∀ x ∈ m, cover x e = true → x ∈ m' ∧ cover x e' = true) (k : ∀ x ∈ m', cover x e' = true → x ∈ m ∧ cover x e = true) : maskOf m e = maskOf m' e' :=
  Int.le_antisymm (maskOf_mono h) (maskOf_mono k)
theorem maskOf_zero {m : List En} {e : En} (h : ∀ x ∈ m, cover x e = false) : maskOf m e = 0 := by
  rcases maskOf_att m e with h0 | ⟨x, hx, c, t⟩
  · exact h0
  · rw [h x hx] at c; cases c
def gpE (x e : En) : Bool := decide (x.kind ≤ 3 ∧ e.kind ≤ 3 ∧ x.row = e.row ∧ x.fam = e.fam ∧ x.qual = e.qual ∧ x.ts = e.ts)
theorem gpE_iff {x e : En} : gpE x e = true ↔ x.kind ≤ 3 ∧ e.kind ≤ 3 ∧ x.row = e.row ∧ x.fam = e.fam ∧ x.qual = e.qual ∧ x.ts = e.ts := by simp [gpE]
def decidesS (m : List En) (e : En) : Bool := m.all fun x => !gpE x e || decide (x.seq ≤ e.seq)
theorem decides_iff {m : List En} {e : En} : decidesS m e = true ↔ ∀ x ∈ m, gpE x e = true → x.seq ≤ e.seq := by
  unfold decidesS
  rw [List.all_eq_true]
  refine ⟨fun h x hx hg => ?_, fun h x hx => ?_⟩
  · have := h x hx
    simpa [hg] using this
  · by_cases hg : gpE x e = true
    · simp [hg, h x hx hg]
    · simp [hg]
def hasPut (m : List En) (e : En) : Bool := m.any fun x => gpE x e && decide (x.kind ≠ 3)
theorem hasPut_iff {m : List En} {e : En} : hasPut m e = true ↔ ∃ x ∈ m, gpE x e = true ∧ x.kind ≠ 3 := by
  unfold hasPut
  simp
def kd (m : List En) (e : En) : Int := if e.kind = 3 ∧ hasPut m e = true then 2 else e.kind
def shadow (m : List En) (x : En) : Bool := m.any fun y => cover y x && decide (x.ts < y.ts ∨ x.ts = y.ts ∧ (x.kind < y.kind ∨ x.seq < y.seq))
theorem shadow_iff {m : List En} {x : En} : shadow m x = true ↔ ∃ y ∈ m, cover y x = true ∧ (x.ts < y.ts ∨ x.ts = y.ts ∧ (x.kind < y.kind ∨ x.seq < y.seq)) := by
  unfold shadow
  simp only [List.any_eq_true, Bool.and_eq_true, decide_eq_true_eq]
section
variable (fs : List (Int × Int)) (clock : Int)
def expS (e : En) : Bool := decide (0 < (famAt fs e.fam).2 ∧ e.ts + (famAt fs e.fam).2 ≤ clock)
def counts (m : List En) (x : En) : Bool := decide (x.kind ≤ 3) && decidesS m x && decide (kd m x ≠ 3) && decide (maskOf m x < x.ts) && !expS fs clock x
def cnt (m p : List En) (e : En) : Int := ((p.filter fun x => counts fs clock m x && mates x e).length : Nat)
def above (m : List En) (e : En) : Int := ((m.filter fun x => counts fs clock m x && mates x e && decide (e.ts < x.ts)).length : Nat)
/-- What the document says of an entry of a list. -/
def sv (m : List En) (e : En) : Vd :=
  if 4 ≤ e.kind then ⟨e, if shadow m e then 8 else 7, 0⟩
  else if decidesS m e then (decideS fs clock { Sp.zero with mask := maskOf m e, rank := above fs clock m e } { e with kind := kd m e }).1
  else ⟨e, 1, 0⟩
end
def kept (v : Vd) : Bool := decide (v.fate ≠ 1)
theorem counts_iff {fs : List (Int × Int)} {clock : Int} {m : List En} {x : En} : counts fs clock m x = true ↔ x.kind ≤ 3 ∧ decidesS m x = true ∧ kd m x ≠ 3 ∧ maskOf m x < x.ts ∧ expS fs clock x = false := by
  unfold counts
  simp only [Bool.and_eq_true, decide_eq_true_eq, Bool.not_eq_true', and_assoc]
section
variable {fs : List (Int × Int)} {clock : Int}
theorem decide_sv {m : List En} {σ : Sp} {t : En} (h3 : t.kind ≤ 3) (hd : decidesS m t = true) (hm : σ.mask = maskOf m t) (hr : σ.rank = above fs clock m t) :
    (decideS fs clock σ { t with kind := kd m t }).1 = sv fs clock m t ∧ (decideS fs clock σ { t with kind := kd m t }).2 = { σ with rank := σ.rank + if counts fs clock m t = true then 1 else 0 } := by
  have hc := counts_iff (fs := fs) (clock := clock) (m := m) (x := t)
  obtain ⟨b, l, f, mk, rk, wt, sq⟩ := σ
  simp only at hm hr
  subst hm hr
  unfold sv
  rw [if_neg (by omega), if_pos hd]
  unfold decideS
  by_cases h1 : t.ts ≤ maskOf m t
  · have c0 : counts fs clock m t = false := Bool.eq_false_iff.2 (fun c => by have := (hc.1 c).2.2.2.1; omega)
    simp [h1, c0]
  · by_cases h2 : 0 < (famAt fs t.fam).2 ∧ t.ts + (famAt fs t.fam).2 ≤ clock
    · have c0 : counts fs clock m t = false := Bool.eq_false_iff.2 (fun c => by have := (hc.1 c).2.2.2.2; simp [expS, h2] at this)
      simp [h1, h2, c0]
    · by_cases h4 : kd m t = 3
      · have c0 : counts fs clock m t = false := Bool.eq_false_iff.2 (fun c => (hc.1 c).2.2.1 h4)
        simp only [if_neg h1, if_neg h2, if_pos h4, c0]
        simp
      · have c0 : counts fs clock m t = true := hc.2 ⟨h3, hd, h4, by omega, by simpa [expS] using h2⟩
        simp only [if_neg h1, if_neg h2, if_neg h4, c0]
        simp
theorem cnt_app (m p q : List En) (e : En) : cnt fs clock m (p ++ q) e = cnt fs clock m p e + cnt fs clock m q e := by
  unfold cnt
  rw [List.filter_append, List.length_append]
  omega
theorem cnt_zero {m p : List En} {e : En} (h : ∀ x ∈ p, counts fs clock m x = true → mates x e = false) : cnt fs clock m p e = 0 := by
  unfold cnt
  rw [List.filter_eq_nil_iff.2]
  · rfl
  · intro x hx hc
    simp only [Bool.and_eq_true] at hc
    rw [h x hx hc.1] at hc
    exact absurd hc.2 (by simp)
theorem cnt_congr {m p : List En} {e e' : En} (h : e.row = e'.row ∧ e.fam = e'.fam ∧ e.qual = e'.qual) : cnt fs clock m p e = cnt fs clock m p e' := by
  unfold cnt
  have : ∀ x, mates x e = mates x e' := fun x => by simp only [mates, h.1, h.2.1, h.2.2]
  simp only [this]
theorem cnt_one (m : List En) (x e : En) (hm : mates x e = true) : cnt fs clock m [x] e = if counts fs clock m x = true then 1 else 0 := by
  unfold cnt
  by_cases h : counts fs clock m x = true
  · simp [h, hm]
  · simp [h]
/-- Of an entry behind r, of whose group none is in r, and ahead of q: so many stand above it. -/
theorem above_cnt {m r q : List En} {t : En} (hm : m = r ++ t :: q) (hs : m.Pairwise Ah) (hv : ∀ e ∈ m, Va e) (h3 : t.kind ≤ 3) (hn : ∀ x ∈ r, gpE x t = false) : above fs clock m t = cnt fs clock m r t := by
  unfold above cnt
  have hp := List.pairwise_append.1 (hm ▸ hs)
  have hq := List.pairwise_cons.1 hp.2.1
  have e : ∀ (P : En → Bool), (m.filter P) = r.filter P ++ (t :: q).filter P := fun P => by rw [hm, List.filter_append]
  rw [e, (List.filter_eq_nil_iff (l := t :: q)).2, List.append_nil]
  · congr 2
    apply List.filter_congr
    intro x hx
    by_cases hc : counts fs clock m x = true
    · by_cases hM : mates x t = true
      · have h1 := mates_iff.1 hM
        have h2 := (counts_iff.1 hc).1
        have ha := hp.2.2 x hx t List.mem_cons_self
        have ht := ha.ts h1.1 h1.2.1 (by omega) h1.2.2 (by omega)
        have : ¬ x.ts = t.ts := fun z => by
          have := gpE_iff.2 ⟨h2, h3, h1.1, h1.2.1, h1.2.2, z⟩
          rw [hn x hx] at this
          cases this
        have h9 : t.ts < x.ts := by omega
        simp [h9]
      · simp [hM]
    · simp [hc]
  · intro x hx hc
    simp only [Bool.and_eq_true, decide_eq_true_eq] at hc
    rcases List.mem_cons.1 hx with rfl | hx
    · omega
    · have h1 := mates_iff.1 hc.1.2
      have h2 := (counts_iff.1 hc.1.1).1
      have ha := hq.1 x hx
      have := ha.ts h1.1.symm h1.2.1.symm (by omega) h1.2.2.symm (by omega)
      omega
/-- No mark behind it stands over a version. -/
theorem mask_part {m r q : List En} {t : En} (hm : m = r ++ t :: q) (hs : m.Pairwise Ah) (h3 : t.kind ≤ 3) : maskOf m t = maskOf r t := by
  have hp := List.pairwise_append.1 (hm ▸ hs)
  have hq := List.pairwise_cons.1 hp.2.1
  refine maskOf_congr (fun x hx c => ⟨?_, c⟩) (fun x hx c => ⟨by rw [hm]; exact List.mem_append_left _ hx, c⟩)
  rw [hm] at hx
  rcases List.mem_append.1 hx with h | h
  · exact h
  · exfalso
    have cc := cover_iff.1 c
    rcases List.mem_cons.1 h with rfl | h
    · omega
    · have ha := hq.1 x h
      rcases cc.2.2 with k | ⟨k, k5, kq⟩
      · have := ha.k5 cc.1.symm cc.2.1.symm k; omega
      · have := ha.k4 cc.1.symm cc.2.1.symm (by omega) kq.symm k; omega
theorem first_decides {m r q : List En} {t : En} (hm : m = r ++ t :: q) (hs : m.Pairwise Ah) (hn : ∀ x ∈ r, gpE x t = false) : decidesS m t = true := by
  have hp := List.pairwise_append.1 (hm ▸ hs)
  have hq := List.pairwise_cons.1 hp.2.1
  refine decides_iff.2 fun x hx hg => ?_
  rw [hm] at hx
  rcases List.mem_append.1 hx with h | h
  · rw [hn x h] at hg; cases hg
  · rcases List.mem_cons.1 h with rfl | h
    · exact Int.le_refl _
    · obtain ⟨g1, g2, g3, g4, g5, g6⟩ := gpE_iff.1 hg
      have := (hq.1 x h).seq g3.symm g4.symm (by omega) g5.symm (by omega) g6.symm
      omega
theorem later_not {m r q : List En} {e l : En} (hm : m = r ++ e :: q) (hs : m.Pairwise Ah) (hl : l ∈ r) (hg : gpE l e = true) : decidesS m e = false := by
  have hp := List.pairwise_append.1 (hm ▸ hs)
  cases h : decidesS m e with
  | false => rfl
  | true =>
    have := decides_iff.1 h l (by rw [hm]; exact List.mem_append_left _ hl) hg
    obtain ⟨g1, g2, g3, g4, g5, g6⟩ := gpE_iff.1 hg
    have := (hp.2.2 l hl e List.mem_cons_self).seq g3 g4 (by omega) g5 (by omega) g6
    omega
end
end Go.Proofs.Ytemdhpjoakldhaa
