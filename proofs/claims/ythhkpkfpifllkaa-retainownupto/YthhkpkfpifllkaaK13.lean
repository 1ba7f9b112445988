import Derived.Test.YthhkpkfpifllkaaK12
namespace Go.Proofs.Ythhkpkfpifllkaa
open Go.RowKit
set_option linter.unusedVariables false

section
variable {fs : List (Int × Int)} {clock : Int}
structure Mid (fs : List (Int × Int)) (clock : Int) (m r d : List En) (l : En) (s : Sp) (V : List Vd) : Prop where
  last : ∀ x ∈ r ++ d, x = l ∨ Ah x l
  mem : l ∈ r ++ d
  begun : s.begun = true
  lst : s.last = l
  fam : s.family = maskOf (r ++ d) { l with kind := 5 }
  mask : s.mask = maskOf (r ++ d) l
  rank : s.rank = cnt fs clock m r l
  out : V.filter kept = (r.map (sv fs clock m)).filter kept
  wait : (s.waiting = false ∧ d = []) ∨ (s.waiting = true ∧ ∃ t g, d = t :: g ∧ t.kind = 3 ∧ l.kind = 3 ∧ gpE l t = true ∧ s.seq = t.seq ∧ (∀ x ∈ g, gpE x t = true ∧ x.kind = 3) ∧ ∀ x ∈ r, gpE x t = false)
structure Ent (fs : List (Int × Int)) (clock : Int) (m p : List En) (e : En) (σ : Sp) (V : List Vd) : Prop where
  wait : σ.waiting = false
  fam : σ.family = maskOf p { e with kind := 5 }
  mask : σ.mask = maskOf p e
  rank : σ.rank = cnt fs clock m p e
  out : V.filter kept = (p.map (sv fs clock m)).filter kept
  new : ∀ x ∈ p, gpE x e = false
theorem cover_of {x a b : En} (h : a.row = b.row ∧ a.fam = b.fam ∧ a.qual = b.qual) (k : a.kind = 5 ↔ b.kind = 5) : cover x a = true → cover x b = true := by
  rw [cover_iff, cover_iff, h.1, h.2.1, h.2.2]
  rintro ⟨h1, h2, h3⟩
  exact ⟨h1, h2, h3.imp id (fun ⟨a, b, c⟩ => ⟨a, fun z => b (k.2 z), c⟩)⟩
theorem maskOf_same {m : List En} {a b : En} (h : a.row = b.row ∧ a.fam = b.fam ∧ a.qual = b.qual) (k : a.kind = 5 ↔ b.kind = 5) : maskOf m a = maskOf m b :=
  maskOf_congr (fun x hx c => ⟨hx, cover_of h k c⟩) (fun x hx c => ⟨hx, cover_of ⟨h.1.symm, h.2.1.symm, h.2.2.symm⟩ k.symm c⟩)
theorem maskOf_fam {m : List En} {a b : En} (h : a.row = b.row ∧ a.fam = b.fam) : maskOf m { a with kind := 5 } = maskOf m { b with kind := 5 } := by
  refine maskOf_congr (fun x hx c => ⟨hx, ?_⟩) (fun x hx c => ⟨hx, ?_⟩) <;>
  · rw [cover_iff] at c ⊢
    simp only [h.1, h.2] at c ⊢
    obtain ⟨c1, c2, c3⟩ := c
    exact ⟨c1, c2, .inl (by rcases c3 with c | ⟨_, c, _⟩ <;> first | exact c | exact absurd rfl c)⟩
theorem maskOf_snoc_v {p : List En} {e a : En} (h : e.kind ≤ 3) : maskOf (p ++ [e]) a = maskOf p a := by
  refine maskOf_congr (fun x hx c => ⟨?_, c⟩) (fun x hx c => ⟨List.mem_append_left _ hx, c⟩)
  rcases List.mem_append.1 hx with q | q
  · exact q
  · simp only [List.mem_singleton] at q
    subst q
    have := (cover_iff.1 c).2.2
    omega
theorem sv_not {m : List En} {x : En} (h : x.kind ≤ 3) (hd : decidesS m x = false) : sv fs clock m x = ⟨x, 1, 0⟩ := by
  unfold sv
  rw [if_neg (by omega), if_neg (by rw [hd]; simp)]
theorem Mid.res {m r d q : List En} {l : En} {s : Sp} {V : List Vd} (h : Mid fs clock m r d l s V) (hm : m = (r ++ d) ++ q) (hs : m.Pairwise Ah) (hv : ∀ e ∈ m, Va e) (k : Int) (hk : ∀ t g, d = t :: g → t.kind = 3 → l.kind = 3 → gpE l t = true → (∀ x ∈ g, x.kind = 3) → (∀ x ∈ r, gpE x t = false) → kd m t = k) :
    Mid fs clock m (r ++ d) [] l (resolveS fs clock s k).2 (V ++ (resolveS fs clock s k).1) := by
  rcases h.wait with ⟨hw, hd⟩ | ⟨hw, t, g, hd, t3, l3, hlt, hseq, hg, hr⟩
  · subst hd
    unfold resolveS
    rw [if_neg (by rw [hw]; simp)]
    simp only [List.append_nil] at *
    exact ⟨by simpa using h.last, by simpa using h.mem, h.begun, h.lst, by simpa using h.fam, by simpa using h.mask, h.rank, h.out, .inl ⟨hw, rfl⟩⟩
  · subst hd
    have hm2 : m = r ++ t :: (g ++ q) := by rw [hm]; simp
    have tm : t ∈ m := by rw [hm2]; simp
    have lm : l ∈ m := by rw [hm]; exact List.mem_append_left _ h.mem
    have hdec : decidesS m t = true := first_decides hm2 hs hr
    obtain ⟨_, _, g3, g4, g5, g6⟩ := gpE_iff.1 hlt
    have hmask : s.mask = maskOf m t := by
      rw [h.mask, mask_part hm2 hs (by omega)]
      refine maskOf_congr (fun x hx c => ?_) (fun x hx c => ⟨List.mem_append_left _ hx, cover_of ⟨g3.symm, g4.symm, g5.symm⟩ (by omega) c⟩)
      have c2 := cover_of (b := t) ⟨g3, g4, g5⟩ (by omega) c
      have c3 := (cover_iff.1 c).2.2
      refine ⟨?_, c2⟩
      rcases List.mem_append.1 hx with z | z
      · exact z
      · exfalso
        rcases List.mem_cons.1 z with rfl | z
        · omega
        · have := (hg x z).2; omega
    have hrank : s.rank = above fs clock m t := by
      rw [h.rank, above_cnt hm2 hs hv (by omega) hr]
      exact cnt_congr ⟨g3, g4, g5⟩
    have ht : ({ s.last with seq := s.seq, kind := k } : En) = { t with kind := kd m t } := by
      rw [hk t g rfl t3 l3 hlt (fun x hx => (hg x hx).2) hr, h.lst, hseq]
      have v1 := (hv l lm).val (by omega)
      have v2 := (hv t tm).val (by omega)
      simp only [En.mk.injEq]
      exact ⟨g3, g4, g5, g6, trivial, trivial, v1.trans v2.symm⟩
    have hD := decide_sv (fs := fs) (clock := clock) (σ := { s with waiting := false }) (t := t) (by omega) hdec hmask hrank
    have hgn : ∀ x ∈ g, decidesS m x = false := fun x hx => by
      obtain ⟨g1, g2, rfl⟩ := List.append_of_mem hx
      refine later_not (r := r ++ t :: g1) (q := g2 ++ q) (l := t) (by rw [hm]; simp) hs (by simp) ?_
      have := gpE_iff.1 (hg x hx).1
      exact gpE_iff.2 ⟨by omega, by omega, this.2.2.1.symm, this.2.2.2.1.symm, this.2.2.2.2.1.symm, this.2.2.2.2.2.symm⟩
    unfold resolveS
    rw [if_pos hw, ht]
    show Mid fs clock m (r ++ t :: g) [] l (decideS fs clock { s with waiting := false } { t with kind := kd m t }).2 (V ++ [(decideS fs clock { s with waiting := false } { t with kind := kd m t }).1])
    rw [hD.1, hD.2]
    refine ⟨by simpa using h.last, by simpa using h.mem, h.begun, h.lst, by simpa using h.fam, by simpa using h.mask, ?_, ?_, .inl ⟨rfl, rfl⟩⟩
    · show s.rank + _ = _
      have e1 : r ++ t :: g = r ++ ([t] ++ g) := by simp
      rw [e1, cnt_app, cnt_app, cnt_one m t l (mates_iff.2 ⟨g3.symm, g4.symm, g5.symm⟩), cnt_zero (p := g) (fun x hx c => by have := (counts_iff.1 c).2.1; rw [hgn x hx] at this; cases this), h.rank]
      omega
    · rw [List.filter_append, h.out, List.map_append, List.filter_append, List.map_cons]
      congr 1
      have : (g.map (sv fs clock m)).filter kept = [] := by
        rw [List.filter_eq_nil_iff]
        intro v hv2
        obtain ⟨x, hx, rfl⟩ := List.mem_map.1 hv2
        rw [sv_not (by have := (hg x hx).2; omega) (hgn x hx)]
        simp [kept]
      rw [List.filter_cons, List.filter_cons, this]
      rfl
theorem Mid.fam_iff {m r d : List En} {l e : En} {s : Sp} {V : List Vd} (h : Mid fs clock m r d l s V) : sameFam s e = true ↔ l.fam = e.fam ∧ l.row = e.row := by
  unfold sameFam
  rw [h.begun, h.lst]
  simp
theorem Mid.col_iff {m r d : List En} {l e : En} {s : Sp} {V : List Vd} (h : Mid fs clock m r d l s V) : sameCol s e = true ↔ l.fam = e.fam ∧ l.row = e.row ∧ l.kind ≠ 5 ∧ l.qual = e.qual := by
  unfold sameCol
  rw [Bool.and_eq_true, Bool.and_eq_true, h.fam_iff, h.lst]
  simp [and_assoc]
theorem Mid.grpS_iff {m r d : List En} {l e : En} {s : Sp} {V : List Vd} (h : Mid fs clock m r d l s V) : sameGrp s e = true ↔ l.fam = e.fam ∧ l.row = e.row ∧ l.kind ≠ 5 ∧ l.qual = e.qual ∧ l.kind ≠ 4 ∧ l.ts = e.ts := by
  unfold sameGrp
  rw [Bool.and_eq_true, Bool.and_eq_true, h.col_iff, h.lst]
  simp [and_assoc]
theorem Mid.left {m p q : List En} {l e : En} {s : Sp} {V : List Vd} (h : Mid fs clock m p [] l s V) (f c : Bool) (hf : f = true ↔ l.fam = e.fam ∧ l.row = e.row) (hc : c = true ↔ l.fam = e.fam ∧ l.row = e.row ∧ l.kind ≠ 5 ∧ l.qual = e.qual) (hm : m = p ++ e :: q) (hs : m.Pairwise Ah) (hn : ∀ x ∈ p, gpE x e = false) : Ent fs clock m p e (leftS s f c) V := by
  have hp := List.pairwise_append.1 (hm ▸ hs)
  have hle : Ah l e := hp.2.2 l (by simpa using h.mem) e List.mem_cons_self
  have hxl : ∀ x ∈ p, x = l ∨ Ah x l := by simpa using h.last
  have hw : s.waiting = false := by rcases h.wait with z | ⟨_, t, g, z, _⟩; exact z.1; cases z
  have hF : (leftS s f c).family = maskOf p { e with kind := 5 } := by
    have e1 : (leftS s f c).family = if f then s.family else 0 := by unfold leftS; cases f <;> cases c <;> rfl
    rw [e1]
    by_cases ht : f = true
    · rw [if_pos ht, h.fam, List.append_nil]
      have := hf.1 ht
      exact maskOf_fam ⟨this.2, this.1⟩
    · rw [if_neg ht]
      refine (maskOf_zero fun x hx => ?_).symm
      cases hcv : cover x { e with kind := 5 } with
      | false => rfl
      | true =>
        have := cover_iff.1 hcv
        have := Ah.midF (hxl x hx) hle this.1 this.2.1
        exact absurd (hf.2 ⟨this.2, this.1⟩) ht
  refine ⟨?_, hF, ?_, ?_, h.out, hn⟩
  · unfold leftS; cases f <;> cases c <;> exact hw
  · have e1 : (leftS s f c).mask = if c then s.mask else (leftS s f c).family := by unfold leftS; cases f <;> cases c <;> rfl
    rw [e1, hF]
    by_cases ht : c = true
    · rw [if_pos ht, h.mask, List.append_nil]
      have := hc.1 ht
      exact maskOf_same ⟨this.2.1, this.1, this.2.2.2⟩ ⟨fun z => absurd z this.2.2.1, fun z => hle.k5 this.2.1 this.1 z⟩
    · rw [if_neg ht]
      refine maskOf_congr (fun x hx cv => ⟨hx, ?_⟩) (fun x hx cv => ⟨hx, ?_⟩)
      · have := cover_iff.1 cv
        refine cover_iff.2 ⟨this.1, this.2.1, .inl ?_⟩
        rcases this.2.2 with z | ⟨_, z, _⟩
        · exact z
        · exact absurd rfl z
      · have cc := cover_iff.1 cv
        refine cover_iff.2 ⟨cc.1, cc.2.1, .inl ?_⟩
        rcases cc.2.2 with z | ⟨z4, z5, zq⟩
        · exact z
        · exfalso
          have a := Ah.midF (hxl x hx) hle cc.1 cc.2.1
          have b := Ah.midC (hxl x hx) hle cc.1 cc.2.1 (by omega) zq
          exact ht (hc.2 ⟨a.2, a.1, b.1, b.2.1⟩)
  · have e1 : (leftS s f c).rank = if c then s.rank else 0 := by unfold leftS; cases f <;> cases c <;> rfl
    rw [e1]
    by_cases ht : c = true
    · rw [if_pos ht, h.rank]
      have := hc.1 ht
      exact cnt_congr ⟨this.2.1, this.1, this.2.2.2⟩
    · rw [if_neg ht]
      refine (cnt_zero fun x hx cn => ?_).symm
      cases hM : mates x e with
      | false => rfl
      | true =>
        exfalso
        have k3 := (counts_iff.1 cn).1
        have mm := mates_iff.1 hM
        have a := Ah.midF (hxl x hx) hle mm.1 mm.2.1
        have b := Ah.midC (hxl x hx) hle mm.1 mm.2.1 (by omega) mm.2.2
        exact ht (hc.2 ⟨a.2, a.1, b.1, b.2.1⟩)
theorem Mid.new {m r d q : List En} {l e : En} {s : Sp} {V : List Vd} (h : Mid fs clock m r d l s V) (hm : m = (r ++ d) ++ e :: q) (hs : m.Pairwise Ah) (hg : ¬ sameGrp s e = true) : ∀ x ∈ r ++ d, gpE x e = false := by
  have hp := List.pairwise_append.1 (hm ▸ hs)
  intro x hx
  cases hc : gpE x e with
  | false => rfl
  | true =>
    obtain ⟨g1, g2, g3, g4, g5, g6⟩ := gpE_iff.1 hc
    have hle : Ah l e := hp.2.2 l h.mem e List.mem_cons_self
    have a := Ah.midF (h.last x hx) hle g3 g4
    have b := Ah.midC (h.last x hx) hle g3 g4 (by omega) g5
    have c := Ah.midG (h.last x hx) hle g3 g4 g1 g5 g2 g6
    exact absurd (h.grpS_iff.2 ⟨a.2, a.1, b.1, b.2.1, c.1, c.2⟩) hg
theorem Mid.enter {m r d q : List En} {l e : En} {s : Sp} {V : List Vd} (h : Mid fs clock m r d l s V) (hm : m = (r ++ d) ++ e :: q) (hs : m.Pairwise Ah) (hv : ∀ e ∈ m, Va e) (hg : ¬ sameGrp s e = true) :
    Ent fs clock m (r ++ d) e (enterS fs clock s e).2 (V ++ (enterS fs clock s e).1) := by
  have hp := List.pairwise_append.1 (hm ▸ hs)
  have hq := List.pairwise_cons.1 hp.2.1
  have hle : Ah l e := hp.2.2 l h.mem e List.mem_cons_self
  unfold enterS
  rw [if_neg hg]
  have hk : ∀ t g, d = t :: g → t.kind = 3 → l.kind = 3 → gpE l t = true → (∀ x ∈ g, x.kind = 3) → (∀ x ∈ r, gpE x t = false) → kd m t = 3 := fun t g hd t3 l3 hlt hg3 hr => by
    unfold kd
    rw [if_neg]
    · exact t3
    · rintro ⟨_, hP⟩
      obtain ⟨x, hx, hxg, hx3⟩ := hasPut_iff.1 hP
      obtain ⟨a1, a2, a3, a4, a5, a6⟩ := gpE_iff.1 hxg
      obtain ⟨b1, b2, b3, b4, b5, b6⟩ := gpE_iff.1 hlt
      rw [hm, hd] at hx
      rcases List.mem_append.1 hx with z | z
      · rcases List.mem_append.1 z with z | z
        · rw [hr x z] at hxg; cases hxg
        · rcases List.mem_cons.1 z with rfl | z
          · exact hx3 t3
          · exact hx3 (hg3 x z)
      · rcases List.mem_cons.1 z with rfl | z
        · exact hg (h.grpS_iff.2 ⟨b4.trans a4.symm, b3.trans a3.symm, by omega, b5.trans a5.symm, by omega, b6.trans a6.symm⟩)
        · have ex := hq.1 x z
          have a := Ah.midF (.inr hle) ex (b3.trans a3.symm) (b4.trans a4.symm)
          have b := Ah.midC (.inr hle) ex (b3.trans a3.symm) (b4.trans a4.symm) (by omega) (b5.trans a5.symm)
          have c := Ah.midG (.inr hle) ex (b3.trans a3.symm) (b4.trans a4.symm) (by omega) (b5.trans a5.symm) a1 (b6.trans a6.symm)
          exact hg (h.grpS_iff.2 ⟨(b4.trans a4.symm).trans a.2.symm, (b3.trans a3.symm).trans a.1.symm, by omega, (b5.trans a5.symm).trans b.2.1.symm, by omega, (b6.trans a6.symm).trans c.2.symm⟩)
  have := (h.res hm hs hv 3 hk)
  exact Mid.left this (sameFam s e) (sameCol s e) h.fam_iff h.col_iff hm hs (h.new hm hs hg)
theorem Ent.mark {m p q : List En} {e : En} {σ : Sp} {V : List Vd} (h : Ent fs clock m p e σ V) (hm : m = p ++ e :: q) (hs : m.Pairwise Ah) (hv : ∀ e ∈ m, Va e) (hk : 4 ≤ e.kind) :
    Mid fs clock m (p ++ [e]) [] e (rememberS (stretchS σ e).2 e) (V ++ [(stretchS σ e).1]) := by
  have hp := List.pairwise_append.1 (hm ▸ hs)
  have hq := List.pairwise_cons.1 hp.2.1
  have em : e ∈ m := by rw [hm]; simp
  have cee : cover e e = true := cover_iff.2 ⟨rfl, rfl, by
    have := (hv e em).k5
    by_cases z : e.kind = 5
    · exact .inl z
    · exact .inr ⟨by omega, z, rfl⟩⟩
  have hmk : maskOf (p ++ [e]) e = if e.ts ≤ maskOf p e then maskOf p e else e.ts := by
    have h1 : maskOf p e ≤ maskOf (p ++ [e]) e := maskOf_mono fun x hx c => ⟨List.mem_append_left _ hx, c⟩
    have h2 : e.ts ≤ maskOf (p ++ [e]) e := maskOf_le (by simp) cee
    have h3 : maskOf (p ++ [e]) e ≤ maskOf p e ∨ maskOf (p ++ [e]) e ≤ e.ts := by
      rcases maskOf_att (p ++ [e]) e with z | ⟨x, hx, c, t⟩
      · left; rw [z]; exact maskOf_nn _ _
      · rcases List.mem_append.1 hx with z | z
        · left; rw [← t]; exact maskOf_le z c
        · simp only [List.mem_singleton] at z
          subst z
          right; omega
    split <;> omega
  have hfm : maskOf (p ++ [e]) { e with kind := 5 } = if e.kind = 5 ∧ ¬ e.ts ≤ maskOf p e then e.ts else maskOf p { e with kind := 5 } := by
    by_cases h5 : e.kind = 5
    · have ee : ({ e with kind := 5 } : En) = e := by rw [← h5]
      rw [ee, hmk]
      by_cases ht : e.ts ≤ maskOf p e
      · rw [if_pos ht, if_neg (by simp [ht])]
      · rw [if_neg ht, if_pos ⟨h5, ht⟩]
    · rw [if_neg (by simp [h5])]
      refine maskOf_congr (fun x hx c => ⟨?_, c⟩) (fun x hx c => ⟨List.mem_append_left _ hx, c⟩)
      rcases List.mem_append.1 hx with z | z
      · exact z
      · simp only [List.mem_singleton] at z
        subst z
        rcases (cover_iff.1 c).2.2 with y | ⟨_, y, _⟩
        · exact absurd y h5
        · exact absurd rfl y
  have hsh : shadow m e = true ↔ e.ts ≤ maskOf p e := by
    rw [shadow_iff]
    constructor
    · rintro ⟨y, hy, c, hc⟩
      have cc := cover_iff.1 c
      rw [hm] at hy
      rcases List.mem_append.1 hy with z | z
      · have := maskOf_le z c
        omega
      · exfalso
        rcases List.mem_cons.1 z with rfl | z
        · omega
        · have ha := hq.1 y z
          have k5 : y.kind = 5 → e.kind = 5 := ha.k5 cc.1.symm cc.2.1.symm
          have qe : e.qual = y.qual := by
            rcases cc.2.2 with w | ⟨_, _, w⟩
            · rw [(hv e em).qual (k5 w), (hv y (by rw [hm]; exact List.mem_append_right _ (List.mem_cons_of_mem _ z))).qual w]
            · exact w.symm
          have kk : e.kind = y.kind := by
            rcases cc.2.2 with w | ⟨w, w2, _⟩
            · rw [k5 w, w]
            · have := (hv e em).k5; omega
          have t1 := ha.ts cc.1.symm cc.2.1.symm (by omega) qe (by omega)
          rcases hc with hc | ⟨hc, hc2⟩
          · omega
          · have := ha.seq cc.1.symm cc.2.1.symm (by omega) qe (by omega) hc
            omega
    · intro ht
      rcases maskOf_att p e with z | ⟨x, hx, c, t⟩
      · have := (hv e em).ts; omega
      · have cc := cover_iff.1 c
        refine ⟨x, by rw [hm]; exact List.mem_append_left _ hx, c, ?_⟩
        by_cases hlt : e.ts < x.ts
        · exact .inl hlt
        · refine .inr ⟨by omega, ?_⟩
          have ha := hp.2.2 x hx e List.mem_cons_self
          have e5 := (hv e em).k5
          by_cases kk : x.kind = e.kind
          · right
            have qe : x.qual = e.qual := by
              rcases cc.2.2 with w | ⟨_, _, w⟩
              · rw [(hv e em).qual (by omega), (hv x (by rw [hm]; exact List.mem_append_left _ hx)).qual w]
              · exact w
            exact ha.seq cc.1 cc.2.1 (by omega) qe (by omega) (by omega)
          · left
            rcases cc.2.2 with w | ⟨w, w2, _⟩ <;> omega
  have hsv : sv fs clock m e = (stretchS σ e).1 := by
    unfold sv stretchS
    rw [if_pos hk, h.mask]
    by_cases ht : e.ts ≤ maskOf p e
    · rw [if_pos ht, if_pos (hsh.2 ht)]
    · rw [if_neg ht, if_neg (fun z => ht (hsh.1 z))]
  have hst : (stretchS σ e).2 = { σ with mask := maskOf (p ++ [e]) e, family := maskOf (p ++ [e]) { e with kind := 5 } } := by
    rw [hmk, hfm]
    unfold stretchS
    rw [h.mask]
    by_cases ht : e.ts ≤ maskOf p e
    · rw [if_pos ht, if_pos ht, if_neg (by simp [ht]), ← h.mask, ← h.fam]
    · rw [if_neg ht, if_neg ht, h.fam]
      by_cases h5 : e.kind = 5
      · simp [h5, ht]
      · simp [h5]
  rw [hst, ← hsv]
  refine ⟨?_, by simp, rfl, rfl, by rw [List.append_nil]; rfl, by rw [List.append_nil]; rfl, ?_, ?_, .inl ⟨h.wait, rfl⟩⟩
  · intro x hx
    rw [List.append_nil] at hx
    rcases List.mem_append.1 hx with z | z
    · exact .inr (hp.2.2 x z e List.mem_cons_self)
    · exact .inl (by simpa using z)
  · show σ.rank = _
    rw [h.rank, cnt_app, cnt_zero (p := [e]) (fun x hx c => by
      simp only [List.mem_singleton] at hx
      subst hx
      have := (counts_iff.1 c).1
      omega)]
    omega
  · rw [List.filter_append, h.out, List.map_append, List.filter_append]
    rfl
theorem Ent.last {m p q : List En} {e : En} (hm : m = p ++ e :: q) (hs : m.Pairwise Ah) : ∀ x ∈ p ++ [e], x = e ∨ Ah x e := by
  have hp := List.pairwise_append.1 (hm ▸ hs)
  intro x hx
  rcases List.mem_append.1 hx with z | z
  · exact .inr (hp.2.2 x z e List.mem_cons_self)
  · exact .inl (by simpa using z)
theorem Ent.put {m p q : List En} {e : En} {σ : Sp} {V : List Vd} (h : Ent fs clock m p e σ V) (hm : m = p ++ e :: q) (hs : m.Pairwise Ah) (hv : ∀ e ∈ m, Va e) (hk : e.kind ≤ 3) (h3 : e.kind ≠ 3) :
    Mid fs clock m (p ++ [e]) [] e (rememberS (decideS fs clock σ e).2 e) (V ++ [(decideS fs clock σ e).1]) := by
  have hkd : ({ e with kind := kd m e } : En) = e := by unfold kd; rw [if_neg (by simp [h3])]
  have hD := decide_sv (fs := fs) (clock := clock) (σ := σ) (t := e) hk (first_decides hm hs h.new) (by rw [h.mask, mask_part hm hs hk]) (by rw [h.rank, above_cnt hm hs hv hk h.new])
  rw [hkd] at hD
  rw [hD.1, hD.2]
  refine ⟨by simpa using Ent.last hm hs, by simp, rfl, rfl, ?_, ?_, ?_, ?_, .inl ⟨h.wait, rfl⟩⟩
  · show σ.family = _
    rw [List.append_nil, maskOf_snoc_v hk, h.fam]
  · show σ.mask = _
    rw [List.append_nil, maskOf_snoc_v hk, h.mask]
  · show σ.rank + _ = _
    rw [cnt_app, cnt_one m e e (mates_iff.2 ⟨rfl, rfl, rfl⟩), h.rank]
  · rw [List.filter_append, h.out, List.map_append, List.filter_append]
    rfl
theorem Ent.cell {m p q : List En} {e : En} {σ : Sp} {V : List Vd} (h : Ent fs clock m p e σ V) (hm : m = p ++ e :: q) (hs : m.Pairwise Ah) (h3 : e.kind = 3) :
    Mid fs clock m p [e] e (rememberS { σ with waiting := true, seq := e.seq } e) V := by
  refine ⟨Ent.last hm hs, by simp, rfl, rfl, ?_, ?_, ?_, h.out, .inr ⟨rfl, e, [], rfl, h3, h3, gpE_iff.2 ⟨by omega, by omega, rfl, rfl, rfl, rfl⟩, rfl, by simp, h.new⟩⟩
  · show σ.family = _
    rw [maskOf_snoc_v (by omega), h.fam]
  · show σ.mask = _
    rw [maskOf_snoc_v (by omega), h.mask]
  · show σ.rank = _
    exact h.rank
theorem Mid.more {m r d q : List En} {l e : En} {s : Sp} {V : List Vd} (h : Mid fs clock m r d l s V) (hm : m = (r ++ d) ++ e :: q) (hs : m.Pairwise Ah) (hv : ∀ e ∈ m, Va e) (hg : sameGrp s e = true) (hk : e.kind ≤ 3) :
    gpE l e = true ∧ decidesS m e = false := by
  have g := h.grpS_iff.1 hg
  have lm : l ∈ m := by rw [hm]; exact List.mem_append_left _ h.mem
  have k5 := (hv l lm).k5
  have hgr : gpE l e = true := gpE_iff.2 ⟨by omega, hk, g.2.1, g.1, g.2.2.2.1, g.2.2.2.2.2⟩
  exact ⟨hgr, later_not hm hs h.mem hgr⟩
theorem Mid.fams {m r d q : List En} {l e : En} {s : Sp} {V : List Vd} (h : Mid fs clock m r d l s V) (hgr : gpE l e = true) : s.family = maskOf (r ++ d ++ [e]) { e with kind := 5 } ∧ s.mask = maskOf (r ++ d ++ [e]) e ∧ s.rank = cnt fs clock m r e := by
  obtain ⟨g1, g2, g3, g4, g5, g6⟩ := gpE_iff.1 hgr
  refine ⟨?_, ?_, ?_⟩
  · rw [h.fam, maskOf_snoc_v g2]
    exact maskOf_fam ⟨g3, g4⟩
  · rw [h.mask, maskOf_snoc_v g2]
    exact maskOf_same ⟨g3, g4, g5⟩ (by omega)
  · rw [h.rank]
    exact cnt_congr ⟨g3, g4, g5⟩
theorem Mid.older {m p q : List En} {l e : En} {s : Sp} {V : List Vd} (h : Mid fs clock m p [] l s V) (hm : m = p ++ e :: q) (hs : m.Pairwise Ah) (hgr : gpE l e = true) (hd : decidesS m e = false) :
    Mid fs clock m (p ++ [e]) [] e (rememberS s e) (V ++ [⟨e, 1, 0⟩]) := by
  have hk := (gpE_iff.1 hgr).2.1
  obtain ⟨f1, f2, f3⟩ := h.fams (q := q) hgr
  rw [List.append_nil] at f1 f2
  refine ⟨by simpa using Ent.last hm hs, by simp, rfl, rfl, by rw [List.append_nil]; exact f1, by rw [List.append_nil]; exact f2, ?_, ?_, ?_⟩
  · show s.rank = _
    rw [f3, cnt_app, cnt_zero (p := [e]) (fun x hx c => by
      simp only [List.mem_singleton] at hx
      subst hx
      have := (counts_iff.1 c).2.1
      rw [hd] at this
      cases this)]
    omega
  · rw [List.filter_append, h.out, List.map_append, List.filter_append, List.map_cons, List.map_nil, sv_not hk hd]
  · rcases h.wait with z | ⟨_, t, g, z, _⟩
    · exact .inl z
    · cases z
theorem Mid.step {m r d q : List En} {l e : En} {s : Sp} {V : List Vd} (h : Mid fs clock m r d l s V) (hm : m = (r ++ d) ++ e :: q) (hs : m.Pairwise Ah) (hv : ∀ e ∈ m, Va e) :
    ∃ r' d', r' ++ d' = (r ++ d) ++ [e] ∧ Mid fs clock m r' d' e (stepS fs clock s e).2 (V ++ (stepS fs clock s e).1) := by
  have em : e ∈ m := by rw [hm]; simp
  have hp := List.pairwise_append.1 (hm ▸ hs)
  have hle : Ah l e := hp.2.2 l h.mem e List.mem_cons_self
  have ve := hv e em
  have k1 := ve.k1
  have k5 := ve.k5
  by_cases hmk : e.kind = 5 ∨ e.kind = 4
  · have hng : ¬ sameGrp s e = true := fun z => by
      have g := h.grpS_iff.1 z
      rcases hmk with y | y
      · exact g.2.2.1 (hle.k5 g.2.1 g.1 y)
      · exact g.2.2.2.2.1 (hle.k4 g.2.1 g.1 (by omega) g.2.2.2.1 y)
    have hE := (h.enter hm hs hv hng).mark hm hs hv (by omega)
    refine ⟨r ++ d ++ [e], [], List.append_nil _, ?_⟩
    unfold stepS
    rw [if_pos hmk, ← List.append_assoc]
    exact hE
  · have hk3 : e.kind ≤ 3 := by omega
    by_cases hg : sameGrp s e = true
    · obtain ⟨hgr, hde⟩ := h.more hm hs hv hg hk3
      unfold stepS
      rw [if_neg hmk, if_pos hg]
      have hen : enterS fs clock s e = ([], s) := by unfold enterS; rw [if_pos hg]
      rw [hen]
      by_cases h3 : e.kind = 3
      · rw [if_neg (by simp [h3])]
        rcases h.wait with ⟨hw, hd⟩ | ⟨hw, t, g, hd, t3, l3, hlt, hseq, hgg, hr⟩
        · subst hd
          refine ⟨(r ++ []) ++ [e], [], by simp, ?_⟩
          have := Mid.older (p := r) (q := q) h (by rw [hm]; simp) hs hgr hde
          simpa using this
        · refine ⟨r, d ++ [e], by simp, ?_⟩
          obtain ⟨f1, f2, f3⟩ := h.fams (q := q) hgr
          have hl := Ent.last hm hs
          obtain ⟨a1, a2, a3, a4, a5, a6⟩ := gpE_iff.1 hlt
          obtain ⟨b1, b2, b3, b4, b5, b6⟩ := gpE_iff.1 hgr
          have het : gpE e t = true := gpE_iff.2 ⟨by omega, by omega, b3.symm.trans a3, b4.symm.trans a4, b5.symm.trans a5, b6.symm.trans a6⟩
          refine ⟨by rw [← List.append_assoc]; exact hl, by simp, rfl, rfl, by rw [← List.append_assoc]; exact f1, by rw [← List.append_assoc]; exact f2, f3, ?_, .inr ⟨hw, t, g ++ [e], by rw [hd]; rfl, t3, h3, het, hseq, ?_, hr⟩⟩
          · rw [List.filter_append, h.out]
            simp [kept]
          · intro x hx
            rcases List.mem_append.1 hx with z | z
            · exact hgg x z
            · simp only [List.mem_singleton] at z
              subst z
              exact ⟨het, h3⟩
      · rw [if_pos h3]
        have hk : ∀ t g, d = t :: g → t.kind = 3 → l.kind = 3 → gpE l t = true → (∀ x ∈ g, x.kind = 3) → (∀ x ∈ r, gpE x t = false) → kd m t = 2 := fun t g hd t3 l3 hlt hg3 hr => by
          obtain ⟨a1, a2, a3, a4, a5, a6⟩ := gpE_iff.1 hlt
          obtain ⟨b1, b2, b3, b4, b5, b6⟩ := gpE_iff.1 hgr
          unfold kd
          rw [if_pos]
          exact ⟨t3, hasPut_iff.2 ⟨e, em, gpE_iff.2 ⟨by omega, by omega, b3.symm.trans a3, b4.symm.trans a4, b5.symm.trans a5, b6.symm.trans a6⟩, h3⟩⟩
        have hR := h.res hm hs hv 2 hk
        have := Mid.older (q := q) hR hm hs hgr hde
        refine ⟨r ++ d ++ [e], [], List.append_nil _, ?_⟩
        simpa using this
    · have hE := h.enter hm hs hv hg
      unfold stepS
      rw [if_neg hmk, if_neg hg]
      by_cases h3 : e.kind = 3
      · rw [if_pos h3]
        exact ⟨_, [e], rfl, hE.cell hm hs h3⟩
      · rw [if_neg h3, ← List.append_assoc]
        exact ⟨r ++ d ++ [e], [], List.append_nil _, hE.put hm hs hv hk3 h3⟩
theorem first_step {m q : List En} {e : En} (hm : m = e :: q) (hs : m.Pairwise Ah) (hv : ∀ e ∈ m, Va e) :
    ∃ r' d', r' ++ d' = [e] ∧ Mid fs clock m r' d' e (stepS fs clock Sp.zero e).2 (stepS fs clock Sp.zero e).1 := by
  have em : e ∈ m := by rw [hm]; simp
  have k5 := (hv e em).k5
  have hg : ¬ sameGrp Sp.zero e = true := by simp [sameGrp, sameCol, sameFam, Sp.zero]
  have hen : enterS fs clock Sp.zero e = ([], Sp.zero) := by
    unfold enterS
    rw [if_neg hg]
    simp [resolveS, Sp.zero, leftS, sameFam, sameCol]
  have hE : Ent fs clock m [] e Sp.zero [] := ⟨rfl, rfl, rfl, rfl, rfl, by simp⟩
  unfold stepS
  rw [hen]
  by_cases hmk : e.kind = 5 ∨ e.kind = 4
  · rw [if_pos hmk]
    exact ⟨_, [], by simp, hE.mark hm hs hv (by omega)⟩
  · rw [if_neg hmk, if_neg hg]
    by_cases h3 : e.kind = 3
    · rw [if_pos h3]
      exact ⟨[], [e], rfl, hE.cell hm hs h3⟩
    · rw [if_neg h3]
      exact ⟨_, [], by simp, hE.put hm hs hv (by omega) h3⟩
theorem Mid.walk {m : List En} (hs : m.Pairwise Ah) (hv : ∀ e ∈ m, Va e) : ∀ (q : List En) {r d : List En} {l : En} {s : Sp} {V : List Vd}, Mid fs clock m r d l s V → m = (r ++ d) ++ q → ∃ r' d' l', r' ++ d' = m ∧ Mid fs clock m r' d' l' (walkS fs clock s q).2 (V ++ (walkS fs clock s q).1)
  | [], r, d, l, s, V, h, hm => ⟨r, d, l, by rw [hm, List.append_nil], by simpa [walkS] using h⟩
  | e :: q, r, d, l, s, V, h, hm => by
    obtain ⟨r1, d1, e1, h1⟩ := h.step hm hs hv
    obtain ⟨r2, d2, l2, e2, h2⟩ := Mid.walk hs hv q h1 (by rw [e1, hm]; simp)
    refine ⟨r2, d2, l2, e2, ?_⟩
    rw [List.append_assoc] at h2
    exact h2
theorem verdicts_spec {m : List En} (hs : m.Pairwise Ah) (hv : ∀ e ∈ m, Va e) : (verdictsS fs clock m).filter kept = (m.map (sv fs clock m)).filter kept := by
  cases m with
  | nil => simp [verdictsS, walkS, resolveS, Sp.zero]
  | cons e q =>
    obtain ⟨r, d, e1, h1⟩ := first_step (fs := fs) (clock := clock) rfl hs hv
    obtain ⟨r2, d2, l2, e2, h2⟩ := Mid.walk hs hv q h1 (by rw [e1]; rfl)
    have h3 := h2.res (q := []) (by rw [e2, List.append_nil]) hs hv 3 (fun t g hd t3 l3 hlt hg3 hr => by
      unfold kd
      rw [if_neg]
      · exact t3
      · rintro ⟨_, hP⟩
        obtain ⟨x, hx, hxg, hx3⟩ := hasPut_iff.1 hP
        rw [← e2, hd] at hx
        rcases List.mem_append.1 hx with z | z
        · rw [hr x z] at hxg; cases hxg
        · rcases List.mem_cons.1 z with rfl | z
          · exact hx3 t3
          · exact hx3 (hg3 x z))
    rw [e2] at h3
    exact h3.out
end
end Go.Proofs.Ythhkpkfpifllkaa

namespace Go.Proofs.Ythhkpkfpifllkaa
open Go.RowKit
set_option linter.unusedVariables false

theorem stays_kept {major : Bool} {low : Int} {v : Vd} (h : staysS major low v = true) : kept v = true := by
  unfold staysS at h
  unfold kept
  by_cases h5 : v.fate = 5
  · simp [h5]
  · by_cases h6 : v.fate = 6
    · simp [h6]
    · by_cases h7 : v.fate = 7
      · simp [h7]
      · simp [h5, h6, h7] at h
theorem filter_stays (major : Bool) (low : Int) (vs : List Vd) : vs.filter (staysS major low) = (vs.filter kept).filter (staysS major low) := by
  rw [List.filter_filter]
  apply List.filter_congr
  intro v _
  cases h : staysS major low v with
  | false => rfl
  | true => rw [stays_kept h]; rfl
section
variable {fs : List (Int × Int)} {clock : Int}
theorem out_spec {m : List En} (hs : m.Pairwise Ah) (hv : ∀ e ∈ m, Va e) (major : Bool) (low : Int) : outS major low (verdictsS fs clock m) = ((m.filter fun x => staysS major low (sv fs clock m x)).map (sv fs clock m)).map Vd.e := by
  unfold outS
  rw [filter_stays, verdicts_spec hs hv, ← filter_stays, List.filter_map]
  rfl
theorem decideS_e (σ : Sp) (e : En) : (decideS fs clock σ e).1.e = e := by
  unfold decideS
  repeat' split
  all_goals rfl
def tld (m : List En) (x : En) : En := if 4 ≤ x.kind then x else if decidesS m x then { x with kind := kd m x } else x
theorem sv_e (m : List En) (x : En) : (sv fs clock m x).e = tld m x := by
  unfold sv tld
  split
  · rfl
  · split
    · exact decideS_e _ _
    · rfl
theorem kd_le {m : List En} {x : En} (h : x.kind ≤ 3) : kd m x ≤ 3 := by unfold kd; split <;> omega
theorem kd_cases (m : List En) (x : En) : kd m x = x.kind ∨ (x.kind = 3 ∧ kd m x = 2) := by
  unfold kd
  split
  · rename_i h; exact .inr ⟨h.1, rfl⟩
  · exact .inl rfl
theorem tld_eq (m : List En) (x : En) : (tld m x).row = x.row ∧ (tld m x).fam = x.fam ∧ (tld m x).qual = x.qual ∧ (tld m x).ts = x.ts ∧ (tld m x).seq = x.seq ∧ (tld m x).val = x.val ∧ ((tld m x).kind = x.kind ∨ (x.kind = 3 ∧ (tld m x).kind = 2)) := by
  unfold tld
  split
  · exact ⟨rfl, rfl, rfl, rfl, rfl, rfl, .inl rfl⟩
  · split
    · exact ⟨rfl, rfl, rfl, rfl, rfl, rfl, kd_cases m x⟩
    · exact ⟨rfl, rfl, rfl, rfl, rfl, rfl, .inl rfl⟩
theorem tld_ah (m : List En) {a b : En} (h : Ah a b) : Ah (tld m a) (tld m b) := by
  obtain ⟨a1, a2, a3, a4, a5, _, a7⟩ := tld_eq m a
  obtain ⟨b1, b2, b3, b4, b5, _, b7⟩ := tld_eq m b
  have e5 : ((tld m a).kind = 5 ↔ (tld m b).kind = 5) ↔ (a.kind = 5 ↔ b.kind = 5) := by omega
  have e4 : ((tld m a).kind = 4 ↔ (tld m b).kind = 4) ↔ (a.kind = 4 ↔ b.kind = 4) := by omega
  constructor
  · rw [a1, b1]; exact h.row
  · rw [a1, b1, a2, b2]; exact h.fam
  · rw [a1, b1, a2, b2]; intro x y z; have := h.k5 x y (by omega); omega
  · rw [a1, b1, a2, b2, a3, b3, e5]; exact h.qual
  · rw [a1, b1, a2, b2, a3, b3, e5]; intro x y z u v; have := h.k4 x y z u (by omega); omega
  · rw [a1, b1, a2, b2, a3, b3, a4, b4, e5, e4]; exact h.ts
  · rw [a1, b1, a2, b2, a3, b3, a4, b4, a5, b5, e5, e4]; exact h.seq
theorem tld_va (m : List En) {a : En} (h : Va a) : Va (tld m a) := by
  obtain ⟨a1, a2, a3, a4, a5, a6, a7⟩ := tld_eq m a
  have k1 := h.k1
  have k5 := h.k5
  refine ⟨by omega, by omega, by rw [a4]; exact h.ts, fun z => ?_, fun z => ?_⟩
  · rw [a6]; exact h.val (by omega)
  · rw [a3]; exact h.qual (by omega)
theorem tld_sorted {m : List En} (hs : m.Pairwise Ah) (P : En → Bool) : ((m.filter P).map (tld m)).Pairwise Ah := by
  rw [List.pairwise_map]
  exact (hs.filter P).imp (fun h => tld_ah m h)
theorem one_decides {m : List En} (hs : m.Pairwise Ah) {x y : En} (hx : x ∈ m) (hy : y ∈ m) (hg : gpE x y = true) (dx : decidesS m x = true) (dy : decidesS m y = true) : x = y := by
  obtain ⟨g1, g2, g3, g4, g5, g6⟩ := gpE_iff.1 hg
  have h1 := decides_iff.1 dy x hx hg
  have h2 := decides_iff.1 dx y hy (gpE_iff.2 ⟨g2, g1, g3.symm, g4.symm, g5.symm, g6.symm⟩)
  obtain ⟨a, b, rfl⟩ := List.append_of_mem hx
  have hp := List.pairwise_append.1 hs
  rcases List.mem_append.1 hy with z | z
  · have := (hp.2.2 y z x List.mem_cons_self).seq g3.symm g4.symm (by omega) g5.symm (by omega) g6.symm
    omega
  · rcases List.mem_cons.1 z with z | z
    · exact z.symm
    · have := ((List.pairwise_cons.1 hp.2.1).1 y z).seq g3 g4 (by omega) g5 (by omega) g6
      omega
theorem top_mark {m : List En} (hs : m.Pairwise Ah) (hv : ∀ e ∈ m, Va e) (x : En) : maskOf m x = 0 ∨ ∃ z ∈ m, cover z x = true ∧ z.ts = maskOf m x ∧ shadow m z = false := by
  rcases maskOf_att m x with h0 | ⟨w, hw, cw, tw⟩
  · exact .inl h0
  · right
    cases hf : m.find? (fun z => cover z x && decide (z.ts = maskOf m x)) with
    | none =>
      have := List.find?_eq_none.1 hf w hw
      simp [cw, tw] at this
    | some z =>
      obtain ⟨hz, a, b, hm, hab⟩ := List.find?_eq_some_iff_append.1 hf
      simp only [Bool.and_eq_true, decide_eq_true_eq] at hz
      have zm : z ∈ m := by rw [hm]; simp
      refine ⟨z, zm, hz.1, hz.2, ?_⟩
      cases hsh : shadow m z with
      | false => rfl
      | true =>
        exfalso
        obtain ⟨y, hy, cy, hc⟩ := shadow_iff.1 hsh
        have cz := cover_iff.1 hz.1
        have cc := cover_iff.1 cy
        have z5 := (hv z zm).k5
        have cyx : cover y x = true := cover_iff.2 ⟨cc.1.trans cz.1, cc.2.1.trans cz.2.1, by
          rcases cc.2.2 with k | ⟨k, k2, k3⟩
          · exact .inl k
          · rcases cz.2.2 with j | ⟨j, j2, j3⟩
            · exact absurd j k2
            · exact .inr ⟨k, j2, k3.trans j3⟩⟩
        have ht := maskOf_le hy cyx
        rw [hm] at hy
        rcases List.mem_append.1 hy with q | q
        · have := hab y q
          have t : y.ts = maskOf m x := by omega
          simp [cyx, t] at this
        · rcases List.mem_cons.1 q with rfl | q
          · omega
          · have hp := List.pairwise_append.1 (hm ▸ hs)
            have ha := (List.pairwise_cons.1 hp.2.1).1 y q
            have k5 : y.kind = 5 → z.kind = 5 := ha.k5 cc.1.symm cc.2.1.symm
            have qe : z.qual = y.qual := by
              rcases cc.2.2 with w | ⟨_, _, w⟩
              · rw [(hv z zm).qual (k5 w), (hv y (by rw [hm]; exact List.mem_append_right _ (List.mem_cons_of_mem _ q))).qual w]
              · exact w.symm
            have kk : z.kind = y.kind := by
              rcases cc.2.2 with w | ⟨w, w2, _⟩
              · rw [k5 w, w]
              · rcases cz.2.2 with j | ⟨j, _⟩
                · exact absurd j w2
                · omega
            have := ha.seq cc.1.symm cc.2.1.symm (by omega) qe (by omega) (by omega)
            omega
theorem out_tld {m : List En} (hs : m.Pairwise Ah) (hv : ∀ e ∈ m, Va e) (major : Bool) (low : Int) : outS major low (verdictsS fs clock m) = (m.filter fun x => staysS major low (sv fs clock m x)).map (tld m) := by
  rw [out_spec hs hv, List.map_map]
  apply List.map_congr_left
  intro x _
  exact sv_e m x
theorem sv_mark {m : List En} {x : En} (h : 4 ≤ x.kind) : sv fs clock m x = ⟨x, if shadow m x then 8 else 7, 0⟩ := by unfold sv; rw [if_pos h]
theorem stays_mark {m : List En} {x : En} {major : Bool} {low : Int} (h : 4 ≤ x.kind) (hp : staysS major low (sv fs clock m x) = true) : shadow m x = false := by
  rw [sv_mark h] at hp
  cases hsh : shadow m x with
  | false => rfl
  | true => simp [staysS, hsh] at hp
theorem stays_ver {m : List En} {x : En} {major : Bool} {low : Int} (h : x.kind ≤ 3) (hp : staysS major low (sv fs clock m x) = true) : decidesS m x = true ∧ maskOf m x < x.ts ∧ expS fs clock x = false ∧ (kd m x ≠ 3 → above fs clock m x + 1 ≤ (famAt fs x.fam).1) := by
  unfold sv at hp
  rw [if_neg (by omega)] at hp
  cases hd : decidesS m x with
  | false => rw [hd] at hp; simp [staysS] at hp
  | true =>
    rw [hd, if_pos rfl] at hp
    unfold decideS at hp
    simp only at hp
    by_cases h1 : x.ts ≤ maskOf m x
    · rw [if_pos h1] at hp; simp [staysS] at hp
    · rw [if_neg h1] at hp
      by_cases h2 : 0 < (famAt fs x.fam).2 ∧ x.ts + (famAt fs x.fam).2 ≤ clock
      · rw [if_pos h2] at hp; simp [staysS] at hp
      · rw [if_neg h2] at hp
        refine ⟨rfl, by omega, by simpa [expS] using h2, fun h3 => ?_⟩
        rw [if_neg h3] at hp
        by_cases h4 : (famAt fs x.fam).1 < above fs clock m x + 1
        · simp [staysS, h4] at hp
        · omega
theorem sv_ver {m : List En} {x : En} (h : x.kind ≤ 3) (hd : decidesS m x = true) (hm : maskOf m x < x.ts) (he : expS fs clock x = false) : sv fs clock m x = if kd m x = 3 then ⟨{ x with kind := kd m x }, 6, 0⟩ else ⟨{ x with kind := kd m x }, if (famAt fs x.fam).1 < above fs clock m x + 1 then 4 else 5, above fs clock m x + 1⟩ := by
  have h2 : ¬ (0 < (famAt fs x.fam).2 ∧ x.ts + (famAt fs x.fam).2 ≤ clock) := by simpa [expS] using he
  unfold sv
  rw [if_neg (by omega), if_pos hd]
  unfold decideS
  simp only
  rw [if_neg (by omega), if_neg h2]
  split <;> rfl
theorem tld_ver {m : List En} {x : En} (h : x.kind ≤ 3) (hd : decidesS m x = true) : tld m x = { x with kind := kd m x } := by
  unfold tld
  rw [if_neg (by omega), if_pos hd]
theorem above_le {m : List En} {x y : En} (hM : mates y x = true) (ht : x.ts < y.ts) : above fs clock m y ≤ above fs clock m x := by
  unfold above
  rw [← List.countP_eq_length_filter, ← List.countP_eq_length_filter]
  have := List.countP_mono_left (l := m) (p := fun z => counts fs clock m z && mates z y && decide (y.ts < z.ts)) (q := fun z => counts fs clock m z && mates z x && decide (x.ts < z.ts)) (fun z _ hz => by
    simp only [Bool.and_eq_true, decide_eq_true_eq] at hz ⊢
    obtain ⟨⟨h1, h2⟩, h3⟩ := hz
    have a := mates_iff.1 hM
    have b := mates_iff.1 h2
    exact ⟨⟨h1, mates_iff.2 ⟨b.1.trans a.1, b.2.1.trans a.2.1, b.2.2.trans a.2.2⟩⟩, by omega⟩)
  omega
section
variable {m : List En} {major : Bool} {low : Int}
def leftL (fs : List (Int × Int)) (clock : Int) (m : List En) (major : Bool) (low : Int) : List En := (m.filter fun x => staysS major low (sv fs clock m x)).map (tld m)
theorem left_mem {z : En} : z ∈ leftL fs clock m major low ↔ ∃ x ∈ m, staysS major low (sv fs clock m x) = true ∧ tld m x = z := by
  unfold leftL
  simp only [List.mem_map, List.mem_filter, and_assoc]
theorem left_grp (hs : m.Pairwise Ah) {x z : En} (hx : x ∈ m) (h3 : x.kind ≤ 3) (hp : staysS major low (sv fs clock m x) = true) (hz : z ∈ leftL fs clock m major low) (hg : gpE z (tld m x) = true) : z = tld m x := by
  obtain ⟨y, hy, py, rfl⟩ := left_mem.1 hz
  obtain ⟨g1, g2, g3, g4, g5, g6⟩ := gpE_iff.1 hg
  obtain ⟨a1, a2, a3, a4, a5, a6, a7⟩ := tld_eq m x
  obtain ⟨b1, b2, b3, b4, b5, b6, b7⟩ := tld_eq m y
  have y3 : y.kind ≤ 3 := by omega
  have := one_decides hs hy hx (gpE_iff.2 ⟨y3, h3, by rw [← b1, g3, a1], by rw [← b2, g4, a2], by rw [← b3, g5, a3], by rw [← b4, g6, a4]⟩) (stays_ver y3 py).1 (stays_ver h3 hp).1
  rw [this]
theorem left_cover (hv : ∀ e ∈ m, Va e) {x z : En} (hz : z ∈ leftL fs clock m major low) (hc : cover z (tld m x) = true) : z ∈ m ∧ cover z x = true ∧ staysS major low (sv fs clock m z) = true := by
  obtain ⟨y, hy, py, rfl⟩ := left_mem.1 hz
  have cc := cover_iff.1 hc
  obtain ⟨a1, a2, a3, a4, a5, a6, a7⟩ := tld_eq m x
  obtain ⟨b1, b2, b3, b4, b5, b6, b7⟩ := tld_eq m y
  have yk : 4 ≤ y.kind := by rcases cc.2.2 with h | ⟨h, _⟩ <;> omega
  have ye : tld m y = y := by unfold tld; rw [if_pos yk]
  rw [ye] at cc ⊢
  refine ⟨hy, cover_iff.2 ⟨cc.1.trans a1, cc.2.1.trans a2, ?_⟩, py⟩
  rcases cc.2.2 with h | ⟨h, h5, hq⟩
  · exact .inl h
  · exact .inr ⟨h, by omega, hq.trans a3⟩
theorem left_mask (hv : ∀ e ∈ m, Va e) (x : En) : maskOf (leftL fs clock m major low) (tld m x) ≤ maskOf m x :=
  maskOf_mono fun z hz hc => ⟨(left_cover hv hz hc).1, (left_cover hv hz hc).2.1⟩
theorem left_dec (hs : m.Pairwise Ah) {x : En} (hx : x ∈ m) (h3 : x.kind ≤ 3) (hp : staysS major low (sv fs clock m x) = true) : decidesS (leftL fs clock m major low) (tld m x) = true :=
  decides_iff.2 fun z hz hg => by rw [left_grp hs hx h3 hp hz hg]; exact Int.le_refl _
theorem left_kd (hs : m.Pairwise Ah) {x : En} (hx : x ∈ m) (h3 : x.kind ≤ 3) (hp : staysS major low (sv fs clock m x) = true) : kd (leftL fs clock m major low) (tld m x) = kd m x := by
  have e : (tld m x).kind = kd m x := by rw [tld_ver h3 (stays_ver h3 hp).1]
  unfold kd
  rw [if_neg]
  · exact e
  · rintro ⟨k, hP⟩
    obtain ⟨z, hz, hg, hz3⟩ := hasPut_iff.1 hP
    rw [left_grp hs hx h3 hp hz hg] at hz3
    exact hz3 k
theorem left_exp (x : En) : expS fs clock (tld m x) = expS fs clock x := by
  obtain ⟨a1, a2, a3, a4, a5, a6, a7⟩ := tld_eq m x
  unfold expS
  rw [a2, a4]
theorem left_counts (hs : m.Pairwise Ah) (hv : ∀ e ∈ m, Va e) {x : En} (hx : x ∈ m) (hp : staysS major low (sv fs clock m x) = true) : counts fs clock (leftL fs clock m major low) (tld m x) = counts fs clock m x := by
  rw [Bool.eq_iff_iff, counts_iff, counts_iff]
  obtain ⟨a1, a2, a3, a4, a5, a6, a7⟩ := tld_eq m x
  by_cases h3 : x.kind ≤ 3
  · obtain ⟨s1, s2, s3, s4⟩ := stays_ver h3 hp
    have := left_mask (fs := fs) (clock := clock) (major := major) (low := low) hv x
    rw [left_kd hs hx h3 hp, left_exp, left_dec hs hx h3 hp, a4, s1, s3]
    constructor
    · rintro ⟨_, _, k, _⟩
      exact ⟨h3, rfl, k, s2, rfl⟩
    · rintro ⟨_, _, k, _⟩
      exact ⟨by omega, rfl, k, by omega, rfl⟩
  · constructor
    · rintro ⟨k, _⟩; omega
    · rintro ⟨k, _⟩; omega
theorem left_above (hs : m.Pairwise Ah) (hv : ∀ e ∈ m, Va e) {x : En} (hx : x ∈ m) (h3 : x.kind ≤ 3) (hp : staysS major low (sv fs clock m x) = true) (hk : kd m x ≠ 3) : above fs clock (leftL fs clock m major low) (tld m x) = above fs clock m x := by
  obtain ⟨a1, a2, a3, a4, a5, a6, a7⟩ := tld_eq m x
  have sx := stays_ver h3 hp
  show (((leftL fs clock m major low).filter fun z => counts fs clock (leftL fs clock m major low) z && mates z (tld m x) && decide ((tld m x).ts < z.ts)).length : Int) = _
  have e1 : ∀ Q : En → Bool, (leftL fs clock m major low).filter Q = ((m.filter fun y => staysS major low (sv fs clock m y)).filter (fun y => Q (tld m y))).map (tld m) := fun Q => by
    unfold leftL
    rw [List.filter_map]
    rfl
  rw [e1, List.length_map, List.filter_filter]
  unfold above
  congr 2
  apply List.filter_congr
  intro y hy
  obtain ⟨b1, b2, b3, b4, b5, b6, b7⟩ := tld_eq m y
  have em : mates (tld m y) (tld m x) = mates y x := by simp only [mates, a1, a2, a3, b1, b2, b3]
  cases py : staysS major low (sv fs clock m y) with
  | true => rw [left_counts hs hv hy py, em, a4, b4, Bool.and_true]
  | false =>
    rw [Bool.and_false]
    cases hc : (counts fs clock m y && mates y x && decide (x.ts < y.ts)) with
    | false => rfl
    | true =>
      exfalso
      simp only [Bool.and_eq_true, decide_eq_true_eq] at hc
      obtain ⟨⟨c1, c2⟩, c3⟩ := hc
      obtain ⟨d1, d2, d3, d4, d5⟩ := counts_iff.1 c1
      have := above_le (fs := fs) (clock := clock) (m := m) c2 c3
      have mx := sx.2.2.2 hk
      have ef : (famAt fs y.fam).1 = (famAt fs x.fam).1 := by rw [(mates_iff.1 c2).2.1]
      rw [sv_ver d1 d2 d4 d5, if_neg d3, if_neg (by omega)] at py
      simp [staysS] at py
theorem left_sv (hs : m.Pairwise Ah) (hv : ∀ e ∈ m, Va e) {x : En} (hx : x ∈ m) (hp : staysS major low (sv fs clock m x) = true) : sv fs clock (leftL fs clock m major low) (tld m x) = sv fs clock m x := by
  obtain ⟨a1, a2, a3, a4, a5, a6, a7⟩ := tld_eq m x
  by_cases h3 : x.kind ≤ 3
  · obtain ⟨s1, s2, s3, s4⟩ := stays_ver h3 hp
    have hmk := left_mask (fs := fs) (clock := clock) (major := major) (low := low) hv x
    rw [sv_ver h3 s1 s2 s3, sv_ver (by omega) (left_dec hs hx h3 hp) (by omega) (by rw [left_exp]; exact s3), left_kd hs hx h3 hp]
    have e : ({ tld m x with kind := kd m x } : En) = { x with kind := kd m x } := by rw [tld_ver h3 s1]
    by_cases hk : kd m x = 3
    · rw [if_pos hk, if_pos hk, e]
    · rw [if_neg hk, if_neg hk, e, left_above hs hv hx h3 hp hk, a2]
  · have k4 : 4 ≤ x.kind := by omega
    have xe : tld m x = x := by unfold tld; rw [if_pos k4]
    have h1 := stays_mark k4 hp
    have h2 : shadow (leftL fs clock m major low) (tld m x) = false := by
      cases h : shadow (leftL fs clock m major low) (tld m x) with
      | false => rfl
      | true =>
        obtain ⟨y, hy, c, hc⟩ := shadow_iff.1 h
        have := left_cover hv hy c
        rw [xe] at hc
        rw [shadow_iff.2 ⟨y, this.1, this.2.1, hc⟩] at h1
        cases h1
    rw [sv_mark (by omega), sv_mark k4, h1, h2, xe]
theorem again {m2 : Bool} (hs : m.Pairwise Ah) (hv : ∀ e ∈ m, Va e) (hi : ∀ v, staysS m2 low v = true → staysS major low v = true) :
    outS m2 low (verdictsS fs clock (outS major low (verdictsS fs clock m))) = outS m2 low (verdictsS fs clock m) := by
  have e0 : outS major low (verdictsS fs clock m) = leftL fs clock m major low := out_tld hs hv major low
  have hsL : (leftL fs clock m major low).Pairwise Ah := tld_sorted hs _
  have hvL : ∀ e ∈ leftL fs clock m major low, Va e := fun e he => by
    obtain ⟨x, hx, _, rfl⟩ := left_mem.1 he
    exact tld_va m (hv x hx)
  rw [e0, out_tld hsL hvL, out_tld hs hv]
  have e1 : ∀ (Q : En → Bool) (g : En → En), ((leftL fs clock m major low).filter Q).map g = ((m.filter fun y => staysS major low (sv fs clock m y)).filter (fun y => Q (tld m y))).map (fun y => g (tld m y)) := fun Q g => by
    unfold leftL
    rw [List.filter_map, List.map_map]
    rfl
  rw [e1, List.filter_filter]
  have e2 : (m.filter fun y => staysS m2 low (sv fs clock (leftL fs clock m major low) (tld m y)) && staysS major low (sv fs clock m y)) = m.filter fun y => staysS m2 low (sv fs clock m y) := by
    apply List.filter_congr
    intro y hy
    cases py : staysS major low (sv fs clock m y) with
    | true => rw [left_sv hs hv hy py, Bool.and_true]
    | false =>
      rw [Bool.and_false]
      cases q : staysS m2 low (sv fs clock m y) with
      | false => rfl
      | true => rw [hi _ q] at py; cases py
  rw [e2]
  apply List.map_congr_left
  intro y hy
  obtain ⟨hy, q⟩ := List.mem_filter.1 hy
  have py := hi _ q
  rw [← sv_e (fs := fs) (clock := clock), left_sv hs hv hy py, sv_e]
end
end
end Go.Proofs.Ythhkpkfpifllkaa
