import Derived.Test.YthhkpkfpifllkaaGreatK11
import Derived.Shelf.SlSortCmp.NoneTotal
namespace Go.Proofs.YthhkpkfpifllkaaGreat
open Go.RowKit
set_option linter.unusedVariables false

section
variable {fs : List (Int × Int)} {clock : Int}
structure Mid (fs : List (Int × Int)) (clock : Int) (m r d : List En) (l : En) (s : Sp) (V : List Vd) : Prop where
  last : ∀ x ∈ r ++ d, x = l ∨ Ah x l
  mem : l ∈ r ++ d
  begun : s.begun = true
  lst : s.last = l
  fam : s.family = maskOf (r ++ d) { l with kind := 5 }
  mask : s.mask = maskOf (r ++ d) l
  rank : s.rank = cnt fs clock m r l
  out : V.filter kept = (r.map (sv fs clock m)).filter kept
  wait : (s.waiting = false ∧ d = []) ∨ (s.waiting = true ∧ ∃ t g, d = t :: g ∧ t.kind = 3 ∧ l.kind = 3 ∧ gpE l t = true ∧ s.seq = t.seq ∧ (∀ x ∈ g, gpE x t = true ∧ x.kind = 3) ∧ ∀ x ∈ r, gpE x t = false)
structure Ent (fs : List (Int × Int)) (clock : Int) (m p : List En) (e : En) (σ : Sp) (V : List Vd) : Prop where
  wait : σ.waiting = false
  fam : σ.family = maskOf p { e with kind := 5 }
  mask : σ.mask = maskOf p e
  rank : σ.rank = cnt fs clock m p e
  out : V.filter kept = (p.map (sv fs clock m)).filter kept
  new : ∀ x ∈ p, gpE x e = false
theorem cover_of {x a b : En} (h : a.row = b.row ∧ a.fam = b.fam ∧ a.qual = b.qual) (k : a.kind = 5 ↔ b.kind = 5) : cover x a = true → cover x b = true := by
  rw [cover_iff, cover_iff, h.1, h.2.1, h.2.2]
  rintro ⟨h1, h2, h3⟩
  exact ⟨h1, h2, h3.imp id (fun ⟨a, b, c⟩ => ⟨a, fun z => b (k.2 z), c⟩)⟩
theorem maskOf_same {m : List En} {a b : En} (h : a.row = b.row ∧ a.fam = b.fam ∧ a.qual = b.qual) (k : a.kind = 5 ↔ b.kind = 5) : maskOf m a = maskOf m b :=
  maskOf_congr (fun x hx c => ⟨hx, cover_of h k c⟩) (fun x hx c => ⟨hx, cover_of ⟨h.1.symm, h.2.1.symm, h.2.2.symm⟩ k.symm c⟩)
theorem maskOf_fam {m : List En} {a b : En} (h : a.row = b.row ∧ a.fam = b.fam) : maskOf m { a with kind := 5 } = maskOf m { b with kind := 5 } := by
  refine maskOf_congr (fun x hx c => ⟨hx, ?_⟩) (fun x hx c => ⟨hx, ?_⟩) <;>
  · rw [cover_iff] at c ⊢
    simp only [h.1, h.2] at c ⊢
    obtain ⟨c1, c2, c3⟩ := c
    exact ⟨c1, c2, .inl (by rcases c3 with c | ⟨_, c, _⟩ <;> first | exact c | exact absurd rfl c)⟩
theorem maskOf_snoc_v {p : List En} {e a : En} (h : e.kind ≤ 3) : maskOf (p ++ [e]) a = maskOf p a := by
  refine maskOf_congr (fun x hx c => ⟨?_, c⟩) (fun x hx c => ⟨List.mem_append_left _ hx, c⟩)
  rcases List.mem_append.1 hx with q | q
  · exact q
  · simp only [List.mem_singleton] at q
    subst q
    have := (cover_iff.1 c).2.2
    omega
theorem sv_not {m : List En} {x : En} (h : x.kind ≤ 3) (hd : decidesS m x = false) : sv fs clock m x = ⟨x, 1, 0⟩ := by
  unfold sv
  rw [if_neg (by omega), if_neg (by rw [hd]; simp)]
theorem Mid.res {m r d q : List En} {l : En} {s : Sp} {V : List Vd} (h : Mid fs clock m r d l s V) (hm : m = (r ++ d) ++ q) (hs : m.Pairwise Ah) (hv : ∀ e ∈ m, Va e) (k : Int) (hk : ∀ t g, d = t :: g → t.kind = 3 → l.kind = 3 → gpE l t = true → (∀ x ∈ g, x.kind = 3) → (∀ x ∈ r, gpE x t = false) → kd m t = k) :
    Mid fs clock m (r ++ d) [] l (resolveS fs clock s k).2 (V ++ (resolveS fs clock s k).1) := by
  rcases h.wait with ⟨hw, hd⟩ | ⟨hw, t, g, hd, t3, l3, hlt, hseq, hg, hr⟩
  · subst hd
    unfold resolveS
    rw [if_neg (by rw [hw]; simp)]
    simp only [List.append_nil] at *
    exact ⟨by simpa using h.last, by simpa using h.mem, h.begun, h.lst, by simpa using h.fam, by simpa using h.mask, h.rank, h.out, .inl ⟨hw, rfl⟩⟩
  · subst hd
    have hm2 : m = r ++ t :: (g ++ q) := by rw [hm]; simp
    have tm : t ∈ m := by rw [hm2]; simp
    have lm : l ∈ m := by rw [hm]; exact List.mem_append_left _ h.mem
    have hdec : decidesS m t = true := first_decides hm2 hs hr
    obtain ⟨_, _, g3, g4, g5, g6⟩ := gpE_iff.1 hlt
    have hmask : s.mask = maskOf m t := by
      rw [h.mask, mask_part hm2 hs (by omega)]
      refine maskOf_congr (fun x hx c => ?_) (fun x hx c => ⟨List.mem_append_left _ hx, cover_of ⟨g3.symm, g4.symm, g5.symm⟩ (by omega) c⟩)
      have c2 := cover_of (b := t) ⟨g3, g4, g5⟩ (by omega) c
      have c3 := (cover_iff.1 c).2.2
      refine ⟨?_, c2⟩
      rcases List.mem_append.1 hx with z | z
      · exact z
      · exfalso
        rcases List.mem_cons.1 z with rfl | z
        · omega
        · have := (hg x z).2; omega
    have hrank : s.rank = above fs clock m t := by
      rw [h.rank, above_cnt hm2 hs hv (by omega) hr]
      exact cnt_congr ⟨g3, g4, g5⟩
    have ht : ({ s.last with seq := s.seq, kind := k } : En) = { t with kind := kd m t } := by
      rw [hk t g rfl t3 l3 hlt (fun x hx => (hg x hx).2) hr, h.lst, hseq]
      have v1 := (hv l lm).val (by omega)
      have v2 := (hv t tm).val (by omega)
      simp only [En.mk.injEq]
      exact ⟨g3, g4, g5, g6, trivial, trivial, v1.trans v2.symm⟩
    have hD := decide_sv (fs := fs) (clock := clock) (σ := { s with waiting := false }) (t := t) (by omega) hdec hmask hrank
    have hgn : ∀ x ∈ g, decidesS m x = false := fun x hx => by
      obtain ⟨g1, g2, rfl⟩ := List.append_of_mem hx
      refine later_not (r := r ++ t :: g1) (q := g2 ++ q) (l := t) (by rw [hm]; simp) hs (by simp) ?_
      have := gpE_iff.1 (hg x hx).1
      exact gpE_iff.2 ⟨by omega, by omega, this.2.2.1.symm, this.2.2.2.1.symm, this.2.2.2.2.1.symm, this.2.2.2.2.2.symm⟩
    unfold resolveS
    rw [if_pos hw, ht]
    show Mid fs clock m (r ++ t :: g) [] l (decideS fs clock { s with waiting := false } { t with kind := kd m t }).2 (V ++ [(decideS fs clock { s with waiting := false } { t with kind := kd m t }).1])
    rw [hD.1, hD.2]
    refine ⟨by simpa using h.last, by simpa using h.mem, h.begun, h.lst, by simpa using h.fam, by simpa using h.mask, ?_, ?_, .inl ⟨rfl, rfl⟩⟩
    · show s.rank + _ = _
      have e1 : r ++ t :: g = r ++ ([t] ++ g) := by simp
      rw [e1, cnt_app, cnt_app, cnt_one m t l (mates_iff.2 ⟨g3.symm, g4.symm, g5.symm⟩), cnt_zero (p := g) (fun x hx c => by have := (counts_iff.1 c).2.1; rw [hgn x hx] at this; cases this), h.rank]
      omega
    · rw [List.filter_append, h.out, List.map_append, List.filter_append, List.map_cons]
      congr 1
      have : (g.map (sv fs clock m)).filter kept = [] := by
        rw [List.filter_eq_nil_iff]
        intro v hv2
        obtain ⟨x, hx, rfl⟩ := List.mem_map.1 hv2
        rw [sv_not (by have := (hg x hx).2; omega) (hgn x hx)]
        simp [kept]
      rw [List.filter_cons, List.filter_cons, this]
      rfl
theorem Mid.fam_iff {m r d : List En} {l e : En} {s : Sp} {V : List Vd} (h : Mid fs clock m r d l s V) : sameFam s e = true ↔ l.fam = e.fam ∧ l.row = e.row := by
  unfold sameFam
  rw [h.begun, h.lst]
  simp
theorem Mid.col_iff {m r d : List En} {l e : En} {s : Sp} {V : List Vd} (h : Mid fs clock m r d l s V) : sameCol s e = true ↔ l.fam = e.fam ∧ l.row = e.row ∧ l.kind ≠ 5 ∧ l.qual = e.qual := by
  unfold sameCol
  rw [Bool.and_eq_true, Bool.and_eq_true, h.fam_iff, h.lst]
  simp [and_assoc]
theorem Mid.grpS_iff {m r d : List En} {l e : En} {s : Sp} {V : List Vd} (h : Mid fs clock m r d l s V) : sameGrp s e = true ↔ l.fam = e.fam ∧ l.row = e.row ∧ l.kind ≠ 5 ∧ l.qual = e.qual ∧ l.kind ≠ 4 ∧ l.ts = e.ts := by
  unfold sameGrp
  rw [Bool.and_eq_true, Bool.and_eq_true, h.col_iff, h.lst]
  simp [and_assoc]
theorem Mid.left {m p q : List En} {l e : En} {s : Sp} {V : List Vd} (h : Mid fs clock m p [] l s V) (f c : Bool) (hf : f = true ↔ l.fam = e.fam ∧ l.row = e.row) (hc : c = true ↔ l.fam = e.fam ∧ l.row = e.row ∧ l.kind ≠ 5 ∧ l.qual = e.qual) (hm : m = p ++ e :: q) (hs : m.Pairwise Ah) (hn : ∀ x ∈ p, gpE x e = false) : Ent fs clock m p e (leftS s f c) V := by
  have hp := List.pairwise_append.1 (hm ▸ hs)
  have hle : Ah l e := hp.2.2 l (by simpa using h.mem) e List.mem_cons_self
  have hxl : ∀ x ∈ p, x = l ∨ Ah x l := by simpa using h.last
  have hw : s.waiting = false := by rcases h.wait with z | ⟨_, t, g, z, _⟩; exact z.1; cases z
  have hF : (leftS s f c).family = maskOf p { e with kind := 5 } := by
    have e1 : (leftS s f c).family = if f then s.family else 0 := by unfold leftS; cases f <;> cases c <;> rfl
    rw [e1]
    by_cases ht : f = true
    · rw [if_pos ht, h.fam, List.append_nil]
      have := hf.1 ht
      exact maskOf_fam ⟨this.2, this.1⟩
    · rw [if_neg ht]
      refine (maskOf_zero fun x hx => ?_).symm
      cases hcv : cover x { e with kind := 5 } with
      | false => rfl
      | true =>
        have := cover_iff.1 hcv
        have := Ah.midF (hxl x hx) hle this.1 this.2.1
        exact absurd (hf.2 ⟨this.2, this.1⟩) ht
  refine ⟨?_, hF, ?_, ?_, h.out, hn⟩
  · unfold leftS; cases f <;> cases c <;> exact hw
  · have e1 : (leftS s f c).mask = if c then s.mask else (leftS s f c).family := by unfold leftS; cases f <;> cases c <;> rfl
    rw [e1, hF]
    by_cases ht : c = true
    · rw [if_pos ht, h.mask, List.append_nil]
      have := hc.1 ht
      exact maskOf_same ⟨this.2.1, this.1, this.2.2.2⟩ ⟨fun z => absurd z this.2.2.1, fun z => hle.k5 this.2.1 this.1 z⟩
    · rw [if_neg ht]
      refine maskOf_congr (fun x hx cv => ⟨hx, ?_⟩) (fun x hx cv => ⟨hx, ?_⟩)
      · have := cover_iff.1 cv
        refine cover_iff.2 ⟨this.1, this.2.1, .inl ?_⟩
        rcases this.2.2 with z | ⟨_, z, _⟩
        · exact z
        · exact absurd rfl z
      · have cc := cover_iff.1 cv
        refine cover_iff.2 ⟨cc.1, cc.2.1, .inl ?_⟩
        rcases cc.2.2 with z | ⟨z4, z5, zq⟩
        · exact z
        · exfalso
          have a := Ah.midF (hxl x hx) hle cc.1 cc.2.1
          have b := Ah.midC (hxl x hx) hle cc.1 cc.2.1 (by omega) zq
          exact ht (hc.2 ⟨a.2, a.1, b.1, b.2.1⟩)
  · have e1 : (leftS s f c).rank = if c then s.rank else 0 := by unfold leftS; cases f <;> cases c <;> rfl
    rw [e1]
    by_cases ht : c = true
    · rw [if_pos ht, h.rank]
      have := hc.1 ht
      exact cnt_congr ⟨this.2.1, this.1, this.2.2.2⟩
    · rw [if_neg ht]
      refine (cnt_zero fun x hx cn => ?_).symm
      cases hM : mates x e with
      | false => rfl
      | true =>
        exfalso
        have k3 := (counts_iff.1 cn).1
        have mm := mates_iff.1 hM
        have a := Ah.midF (hxl x hx) hle mm.1 mm.2.1
        have b := Ah.midC (hxl x hx) hle mm.1 mm.2.1 (by omega) mm.2.2
        exact ht (hc.2 ⟨a.2, a.1, b.1, b.2.1⟩)
theorem Mid.new {m r d q : List En} {l e : En} {s : Sp} {V : List Vd} (h : Mid fs clock m r d l s V) (hm : m = (r ++ d) ++ e :: q) (hs : m.Pairwise Ah) (hg : ¬ sameGrp s e = true) : ∀ x ∈ r ++ d, gpE x e = false := by
  have hp := List.pairwise_append.1 (hm ▸ hs)
  intro x hx
  cases hc : gpE x e with
  | false => rfl
  | true =>
    obtain ⟨g1, g2, g3, g4, g5, g6⟩ := gpE_iff.1 hc
    have hle : Ah l e := hp.2.2 l h.mem e List.mem_cons_self
    have a := Ah.midF (h.last x hx) hle g3 g4
    have b := Ah.midC (h.last x hx) hle g3 g4 (by omega) g5
    have c := Ah.midG (h.last x hx) hle g3 g4 g1 g5 g2 g6
    exact absurd (h.grpS_iff.2 ⟨a.2, a.1, b.1, b.2.1, c.1, c.2⟩) hg
theorem Mid.enter {m r d q : List En} {l e : En} {s : Sp} {V : List Vd} (h : Mid fs clock m r d l s V) (hm : m = (r ++ d) ++ e :: q) (hs : m.Pairwise Ah) (hv : ∀ e ∈ m, Va e) (hg : ¬ sameGrp s e = true) :
    Ent fs clock m (r ++ d) e (enterS fs clock s e).2 (V ++ (enterS fs clock s e).1) := by
  have hp := List.pairwise_append.1 (hm ▸ hs)
  have hq := List.pairwise_cons.1 hp.2.1
  have hle : Ah l e := hp.2.2 l h.mem e List.mem_cons_self
  unfold enterS
  rw [if_neg hg]
  have hk : ∀ t g, d = t :: g → t.kind = 3 → l.kind = 3 → gpE l t = true → (∀ x ∈ g, x.kind = 3) → (∀ x ∈ r, gpE x t = false) → kd m t = 3 := fun t g hd t3 l3 hlt hg3 hr => by
    unfold kd
    rw [if_neg]
    · exact t3
    · rintro ⟨_, hP⟩
      obtain ⟨x, hx, hxg, hx3⟩ := hasPut_iff.1 hP
      obtain ⟨a1, a2, a3, a4, a5, a6⟩ := gpE_iff.1 hxg
      obtain ⟨b1, b2, b3, b4, b5, b6⟩ := gpE_iff.1 hlt
      rw [hm, hd] at hx
      rcases List.mem_append.1 hx with z | z
      · rcases List.mem_append.1 z with z | z
        · rw [hr x z] at hxg; cases hxg
        · rcases List.mem_cons.1 z with rfl | z
          · exact hx3 t3
          · exact hx3 (hg3 x z)
      · rcases List.mem_cons.1 z with rfl | z
        · exact hg (h.grpS_iff.2 ⟨b4.trans a4.symm, b3.trans a3.symm, by omega, b5.trans a5.symm, by omega, b6.trans a6.symm⟩)
        · have ex := hq.1 x z
          have a := Ah.midF (.inr hle) ex (b3.trans a3.symm) (b4.trans a4.symm)
          have b := Ah.midC (.inr hle) ex (b3.trans a3.symm) (b4.trans a4.symm) (by omega) (b5.trans a5.symm)
          have c := Ah.midG (.inr hle) ex (b3.trans a3.symm) (b4.trans a4.symm) (by omega) (b5.trans a5.symm) a1 (b6.trans a6.symm)
          exact hg (h.grpS_iff.2 ⟨(b4.trans a4.symm).trans a.2.symm, (b3.trans a3.symm).trans a.1.symm, by omega, (b5.trans a5.symm).trans b.2.1.symm, by omega, (b6.trans a6.symm).trans c.2.symm⟩)
  have := (h.res hm hs hv 3 hk)
  exact Mid.left this (sameFam s e) (sameCol s e) h.fam_iff h.col_iff hm hs (h.new hm hs hg)
theorem Ent.mark {m p q : List En} {e : En} {σ : Sp} {V : List Vd} (h : Ent fs clock m p e σ V) (hm : m = p ++ e :: q) (hs : m.Pairwise Ah) (hv : ∀ e ∈ m, Va e) (hk : 4 ≤ e.kind) :
    Mid fs clock m (p ++ [e]) [] e (rememberS (stretchS σ e).2 e) (V ++ [(stretchS σ e).1]) := by
  have hp := List.pairwise_append.1 (hm ▸ hs)
  have hq := List.pairwise_cons.1 hp.2.1
  have em : e ∈ m := by rw [hm]; simp
  have cee : cover e e = true := cover_iff.2 ⟨rfl, rfl, by
    have := (hv e em).k5
    by_cases z : e.kind = 5
    · exact .inl z
    · exact .inr ⟨by omega, z, rfl⟩⟩
  have hmk : maskOf (p ++ [e]) e = if e.ts ≤ maskOf p e then maskOf p e else e.ts := by
    have h1 : maskOf p e ≤ maskOf (p ++ [e]) e := maskOf_mono fun x hx c => ⟨List.mem_append_left _ hx, c⟩
    have h2 : e.ts ≤ maskOf (p ++ [e]) e := maskOf_le (by simp) cee
    have h3 : maskOf (p ++ [e]) e ≤ maskOf p e ∨ maskOf (p ++ [e]) e ≤ e.ts := by
      rcases maskOf_att (p ++ [e]) e with z | ⟨x, hx, c, t⟩
      · left; rw [z]; exact maskOf_nn _ _
      · rcases List.mem_append.1 hx with z | z
        · left; rw [← t]; exact maskOf_le z c
        · simp only [List.mem_singleton] at z
          subst z
          right; omega
    split <;> omega
  have hfm : maskOf (p ++ [e]) { e with kind := 5 } = if e.kind = 5 ∧ ¬ e.ts ≤ maskOf p e then e.ts else maskOf p { e with kind := 5 } := by
    by_cases h5 : e.kind = 5
    · have ee : ({ e with kind := 5 } : En) = e := by rw [← h5]
      rw [ee, hmk]
      by_cases ht : e.ts ≤ maskOf p e
      · rw [if_pos ht, if_neg (by simp [ht])]
      · rw [if_neg ht, if_pos ⟨h5, ht⟩]
    · rw [if_neg (by simp [h5])]
      refine maskOf_congr (fun x hx c => ⟨?_, c⟩) (fun x hx c => ⟨List.mem_append_left _ hx, c⟩)
      rcases List.mem_append.1 hx with z | z
      · exact z
      · simp only [List.mem_singleton] at z
        subst z
        rcases (cover_iff.1 c).2.2 with y | ⟨_, y, _⟩
        · exact absurd y h5
        · exact absurd rfl y
  have hsh : shadow m e = true ↔ e.ts ≤ maskOf p e := by
    rw [shadow_iff]
    constructor
    · rintro ⟨y, hy, c, hc⟩
      have cc := cover_iff.1 c
      rw [hm] at hy
      rcases List.mem_append.1 hy with z | z
      · have := maskOf_le z c
        omega
      · exfalso
        rcases List.mem_cons.1 z with rfl | z
        · omega
        · have ha := hq.1 y z
          have k5 : y.kind = 5 → e.kind = 5 := ha.k5 cc.1.symm cc.2.1.symm
          have qe : e.qual = y.qual := by
            rcases cc.2.2 with w | ⟨_, _, w⟩
            · rw [(hv e em).qual (k5 w), (hv y (by rw [hm]; exact List.mem_append_right _ (List.mem_cons_of_mem _ z))).qual w]
            · exact w.symm
          have kk : e.kind = y.kind := by
            rcases cc.2.2 with w | ⟨w, w2, _⟩
            · rw [k5 w, w]
            · have := (hv e em).k5; omega
          have t1 := ha.ts cc.1.symm cc.2.1.symm (by omega) qe (by omega)
          rcases hc with hc | ⟨hc, hc2⟩
          · omega
          · have := ha.seq cc.1.symm cc.2.1.symm (by omega) qe (by omega) hc
            omega
    · intro ht
      rcases maskOf_att p e with z | ⟨x, hx, c, t⟩
      · have := (hv e em).ts; omega
      · have cc := cover_iff.1 c
        refine ⟨x, by rw [hm]; exact List.mem_append_left _ hx, c, ?_⟩
        by_cases hlt : e.ts < x.ts
        · exact .inl hlt
        · refine .inr ⟨by omega, ?_⟩
          have ha := hp.2.2 x hx e List.mem_cons_self
          have e5 := (hv e em).k5
          by_cases kk : x.kind = e.kind
          · right
            have qe : x.qual = e.qual := by
              rcases cc.2.2 with w | ⟨_, _, w⟩
              · rw [(hv e em).qual (by omega), (hv x (by rw [hm]; exact List.mem_append_left _ hx)).qual w]
              · exact w
            exact ha.seq cc.1 cc.2.1 (by omega) qe (by omega) (by omega)
          · left
            rcases cc.2.2 with w | ⟨w, w2, _⟩ <;> omega
  have hsv : sv fs clock m e = (stretchS σ e).1 := by
    unfold sv stretchS
    rw [if_pos hk, h.mask]
    by_cases ht : e.ts ≤ maskOf p e
    · rw [if_pos ht, if_pos (hsh.2 ht)]
    · rw [if_neg ht, if_neg (fun z => ht (hsh.1 z))]
  have hst : (stretchS σ e).2 = { σ with mask := maskOf (p ++ [e]) e, family := maskOf (p ++ [e]) { e with kind := 5 } } := by
    rw [hmk, hfm]
    unfold stretchS
    rw [h.mask]
    by_cases ht : e.ts ≤ maskOf p e
    · rw [if_pos ht, if_pos ht, if_neg (by simp [ht]), ← h.mask, ← h.fam]
    · rw [if_neg ht, if_neg ht, h.fam]
      by_cases h5 : e.kind = 5
      · simp [h5, ht]
      · simp [h5]
  rw [hst, ← hsv]
  refine ⟨?_, by simp, rfl, rfl, by rw [List.append_nil]; rfl, by rw [List.append_nil]; rfl, ?_, ?_, .inl ⟨h.wait, rfl⟩⟩
  · intro x hx
    rw [List.append_nil] at hx
    rcases List.mem_append.1 hx with z | z
    · exact .inr (hp.2.2 x z e List.mem_cons_self)
    · exact .inl (by simpa using z)
  · show σ.rank = _
    rw [h.rank, cnt_app, cnt_zero (p := [e]) (fun x hx c => by
      simp only [List.mem_singleton] at hx
      subst hx
      have := (counts_iff.1 c).1
      omega)]
    omega
  · rw [List.filter_append, h.out, List.map_append, List.filter_append]
    rfl
theorem Ent.last {m p q : List En} {e : En} (hm : m = p ++ e :: q) (hs : m.Pairwise Ah) : ∀ x ∈ p ++ [e], x = e ∨ Ah x e := by
  have hp := List.pairwise_append.1 (hm ▸ hs)
  intro x hx
  rcases List.mem_append.1 hx with z | z
  · exact .inr (hp.2.2 x z e List.mem_cons_self)
  · exact .inl (by simpa using z)
theorem Ent.put {m p q : List En} {e : En} {σ : Sp} {V : List Vd} (h : Ent fs clock m p e σ V) (hm : m = p ++ e :: q) (hs : m.Pairwise Ah) (hv : ∀ e ∈ m, Va e) (hk : e.kind ≤ 3) (h3 : e.kind ≠ 3) :
    Mid fs clock m (p ++ [e]) [] e (rememberS (decideS fs clock σ e).2 e) (V ++ [(decideS fs clock σ e).1]) := by
  have hkd : ({ e with kind := kd m e } : En) = e := by unfold kd; rw [if_neg (by simp [h3])]
  have hD := decide_sv (fs := fs) (clock := clock) (σ := σ) (t := e) hk (first_decides hm hs h.new) (by rw [h.mask, mask_part hm hs hk]) (by rw [h.rank, above_cnt hm hs hv hk h.new])
  rw [hkd] at hD
  rw [hD.1, hD.2]
  refine ⟨by simpa using Ent.last hm hs, by simp, rfl, rfl, ?_, ?_, ?_, ?_, .inl ⟨h.wait, rfl⟩⟩
  · show σ.family = _
    rw [List.append_nil, maskOf_snoc_v hk, h.fam]
  · show σ.mask = _
    rw [List.append_nil, maskOf_snoc_v hk, h.mask]
  · show σ.rank + _ = _
    rw [cnt_app, cnt_one m e e (mates_iff.2 ⟨rfl, rfl, rfl⟩), h.rank]
  · rw [List.filter_append, h.out, List.map_append, List.filter_append]
    rfl
theorem Ent.cell {m p q : List En} {e : En} {σ : Sp} {V : List Vd} (h : Ent fs clock m p e σ V) (hm : m = p ++ e :: q) (hs : m.Pairwise Ah) (h3 : e.kind = 3) :
    Mid fs clock m p [e] e (rememberS { σ with waiting := true, seq := e.seq } e) V := by
  refine ⟨Ent.last hm hs, by simp, rfl, rfl, ?_, ?_, ?_, h.out, .inr ⟨rfl, e, [], rfl, h3, h3, gpE_iff.2 ⟨by omega, by omega, rfl, rfl, rfl, rfl⟩, rfl, by simp, h.new⟩⟩
  · show σ.family = _
    rw [maskOf_snoc_v (by omega), h.fam]
  · show σ.mask = _
    rw [maskOf_snoc_v (by omega), h.mask]
  · show σ.rank = _
    exact h.rank
theorem Mid.more {m r d q : List En} {l e : En} {s : Sp} {V : List Vd} (h : Mid fs clock m r d l s V) (hm : m = (r ++ d) ++ e :: q) (hs : m.Pairwise Ah) (hv : ∀ e ∈ m, Va e) (hg : sameGrp s e = true) (hk : e.kind ≤ 3) :
    gpE l e = true ∧ decidesS m e = false := by
  have g := h.grpS_iff.1 hg
  have lm : l ∈ m := by rw [hm]; exact List.mem_append_left _ h.mem
  have k5 := (hv l lm).k5
  have hgr : gpE l e = true := gpE_iff.2 ⟨by omega, hk, g.2.1, g.1, g.2.2.2.1, g.2.2.2.2.2⟩
  exact ⟨hgr, later_not hm hs h.mem hgr⟩
theorem Mid.fams {m r d q : List En} {l e : En} {s : Sp} {V : List Vd} (h : Mid fs clock m r d l s V) (hgr : gpE l e = true) : s.family = maskOf (r ++ d ++ [e]) { e with kind := 5 } ∧ s.mask = maskOf (r ++ d ++ [e]) e ∧ s.rank = cnt fs clock m r e := by
  obtain ⟨g1, g2, g3, g4, g5, g6⟩ := gpE_iff.1 hgr
  refine ⟨?_, ?_, ?_⟩
  · rw [h.fam, maskOf_snoc_v g2]
    exact maskOf_fam ⟨g3, g4⟩
  · rw [h.mask, maskOf_snoc_v g2]
    exact maskOf_same ⟨g3, g4, g5⟩ (by omega)
  · rw [h.rank]
    exact cnt_congr ⟨g3, g4, g5⟩
theorem Mid.older {m p q : List En} {l e : En} {s : Sp} {V : List Vd} (h : Mid fs clock m p [] l s V) (hm : m = p ++ e :: q) (hs : m.Pairwise Ah) (hgr : gpE l e = true) (hd : decidesS m e = false) :
    Mid fs clock m (p ++ [e]) [] e (rememberS s e) (V ++ [⟨e, 1, 0⟩]) := by
  have hk := (gpE_iff.1 hgr).2.1
  obtain ⟨f1, f2, f3⟩ := h.fams (q := q) hgr
  rw [List.append_nil] at f1 f2
  refine ⟨by simpa using Ent.last hm hs, by simp, rfl, rfl, by rw [List.append_nil]; exact f1, by rw [List.append_nil]; exact f2, ?_, ?_, ?_⟩
  · show s.rank = _
    rw [f3, cnt_app, cnt_zero (p := [e]) (fun x hx c => by
      simp only [List.mem_singleton] at hx
      subst hx
      have := (counts_iff.1 c).2.1
      rw [hd] at this
      cases this)]
    omega
  · rw [List.filter_append, h.out, List.map_append, List.filter_append, List.map_cons, List.map_nil, sv_not hk hd]
  · rcases h.wait with z | ⟨_, t, g, z, _⟩
    · exact .inl z
    · cases z
theorem Mid.step {m r d q : List En} {l e : En} {s : Sp} {V : List Vd} (h : Mid fs clock m r d l s V) (hm : m = (r ++ d) ++ e :: q) (hs : m.Pairwise Ah) (hv : ∀ e ∈ m, Va e) :
    ∃ r' d', r' ++ d' = (r ++ d) ++ [e] ∧ Mid fs clock m r' d' e (stepS fs clock s e).2 (V ++ (stepS fs clock s e).1) := by
  have em : e ∈ m := by rw [hm]; simp
  have hp := List.pairwise_append.1 (hm ▸ hs)
  have hle : Ah l e := hp.2.2 l h.mem e List.mem_cons_self
  have ve := hv e em
  have k1 := ve.k1
  have k5 := ve.k5
  by_cases hmk : e.kind = 5 ∨ e.kind = 4
  · have hng : ¬ sameGrp s e = true := fun z => by
      have g := h.grpS_iff.1 z
      rcases hmk with y | y
      · exact g.2.2.1 (hle.k5 g.2.1 g.1 y)
      · exact g.2.2.2.2.1 (hle.k4 g.2.1 g.1 (by omega) g.2.2.2.1 y)
    have hE := (h.enter hm hs hv hng).mark hm hs hv (by omega)
    refine ⟨r ++ d ++ [e], [], List.append_nil _, ?_⟩
    unfold stepS
    rw [if_pos hmk, ← List.append_assoc]
    exact hE
  · have hk3 : e.kind ≤ 3 := by omega
    by_cases hg : sameGrp s e = true
    · obtain ⟨hgr, hde⟩ := h.more hm hs hv hg hk3
      unfold stepS
      rw [if_neg hmk, if_pos hg]
      have hen : enterS fs clock s e = ([], s) := by unfold enterS; rw [if_pos hg]
      rw [hen]
      by_cases h3 : e.kind = 3
      · rw [if_neg (by simp [h3])]
        rcases h.wait with ⟨hw, hd⟩ | ⟨hw, t, g, hd, t3, l3, hlt, hseq, hgg, hr⟩
        · subst hd
          refine ⟨(r ++ []) ++ [e], [], by simp, ?_⟩
          have := Mid.older (p := r) (q := q) h (by rw [hm]; simp) hs hgr hde
          simpa using this
        · refine ⟨r, d ++ [e], by simp, ?_⟩
          obtain ⟨f1, f2, f3⟩ := h.fams (q := q) hgr
          have hl := Ent.last hm hs
          obtain ⟨a1, a2, a3, a4, a5, a6⟩ := gpE_iff.1 hlt
          obtain ⟨b1, b2, b3, b4, b5, b6⟩ := gpE_iff.1 hgr
          have het : gpE e t = true := gpE_iff.2 ⟨by omega, by omega, b3.symm.trans a3, b4.symm.trans a4, b5.symm.trans a5, b6.symm.trans a6⟩
          refine ⟨by rw [← List.append_assoc]; exact hl, by simp, rfl, rfl, by rw [← List.append_assoc]; exact f1, by rw [← List.append_assoc]; exact f2, f3, ?_, .inr ⟨hw, t, g ++ [e], by rw [hd]; rfl, t3, h3, het, hseq, ?_, hr⟩⟩
          · rw [List.filter_append, h.out]
            simp [kept]
          · intro x hx
            rcases List.mem_append.1 hx with z | z
            · exact hgg x z
            · simp only [List.mem_singleton] at z
              subst z
              exact ⟨het, h3⟩
      · rw [if_pos h3]
        have hk : ∀ t g, d = t :: g → t.kind = 3 → l.kind = 3 → gpE l t = true → (∀ x ∈ g, x.kind = 3) → (∀ x ∈ r, gpE x t = false) → kd m t = 2 := fun t g hd t3 l3 hlt hg3 hr => by
          obtain ⟨a1, a2, a3, a4, a5, a6⟩ := gpE_iff.1 hlt
          obtain ⟨b1, b2, b3, b4, b5, b6⟩ := gpE_iff.1 hgr
          unfold kd
          rw [if_pos]
          exact ⟨t3, hasPut_iff.2 ⟨e, em, gpE_iff.2 ⟨by omega, by omega, b3.symm.trans a3, b4.symm.trans a4, b5.symm.trans a5, b6.symm.trans a6⟩, h3⟩⟩
        have hR := h.res hm hs hv 2 hk
        have := Mid.older (q := q) hR hm hs hgr hde
        refine ⟨r ++ d ++ [e], [], List.append_nil _, ?_⟩
        simpa using this
    · have hE := h.enter hm hs hv hg
      unfold stepS
      rw [if_neg hmk, if_neg hg]
      by_cases h3 : e.kind = 3
      · rw [if_pos h3]
        exact ⟨_, [e], rfl, hE.cell hm hs h3⟩
      · rw [if_neg h3, ← List.append_assoc]
        exact ⟨r ++ d ++ [e], [], List.append_nil _, hE.put hm hs hv hk3 h3⟩
theorem first_step {m q : List En} {e : En} (hm : m = e :: q) (hs : m.Pairwise Ah) (hv : ∀ e ∈ m, Va e) :
    ∃ r' d', r' ++ d' = [e] ∧ Mid fs clock m r' d' e (stepS fs clock Sp.zero e).2 (stepS fs clock Sp.zero e).1 := by
  have em : e ∈ m := by rw [hm]; simp
  have k5 := (hv e em).k5
  have hg : ¬ sameGrp Sp.zero e = true := by simp [sameGrp, sameCol, sameFam, Sp.zero]
  have hen : enterS fs clock Sp.zero e = ([], Sp.zero) := by
    unfold enterS
    rw [if_neg hg]
    simp [resolveS, Sp.zero, leftS, sameFam, sameCol]
  have hE : Ent fs clock m [] e Sp.zero [] := ⟨rfl, rfl, rfl, rfl, rfl, by simp⟩
  unfold stepS
  rw [hen]
  by_cases hmk : e.kind = 5 ∨ e.kind = 4
  · rw [if_pos hmk]
    exact ⟨_, [], by simp, hE.mark hm hs hv (by omega)⟩
  · rw [if_neg hmk, if_neg hg]
    by_cases h3 : e.kind = 3
    · rw [if_pos h3]
      exact ⟨[], [e], rfl, hE.cell hm hs h3⟩
    · rw [if_neg h3]
      exact ⟨_, [], by simp, hE.put hm hs hv (by omega) h3⟩
theorem Mid.walk {m : List En} (hs : m.Pairwise Ah) (hv : ∀ e ∈ m, Va e) : ∀ (q : List En) {r d : List En} {l : En} {s : Sp} {V : List Vd}, Mid fs clock m r d l s V → m = (r ++ d) ++ q → ∃ r' d' l', r' ++ d' = m ∧ Mid fs clock m r' d' l' (walkS fs clock s q).2 (V ++ (walkS fs clock s q).1)
  | [], r, d, l, s, V, h, hm => ⟨r, d, l, by rw [hm, List.append_nil], by simpa [walkS] using h⟩
  | e :: q, r, d, l, s, V, h, hm => by
    obtain ⟨r1, d1, e1, h1⟩ := h.step hm hs hv
    obtain ⟨r2, d2, l2, e2, h2⟩ := Mid.walk hs hv q h1 (by rw [e1, hm]; simp)
    refine ⟨r2, d2, l2, e2, ?_⟩
    rw [List.append_assoc] at h2
    exact h2
theorem verdicts_spec {m : List En} (hs : m.Pairwise Ah) (hv : ∀ e ∈ m, Va e) : (verdictsS fs clock m).filter kept = (m.map (sv fs clock m)).filter kept := by
  cases m with
  | nil => simp [verdictsS, walkS, resolveS, Sp.zero]
  | cons e q =>
    obtain ⟨r, d, e1, h1⟩ := first_step (fs := fs) (clock := clock) rfl hs hv
    obtain ⟨r2, d2, l2, e2, h2⟩ := Mid.walk hs hv q h1 (by rw [e1]; rfl)
    have h3 := h2.res (q := []) (by rw [e2, List.append_nil]) hs hv 3 (fun t g hd t3 l3 hlt hg3 hr => by
      unfold kd
      rw [if_neg]
      · exact t3
      · rintro ⟨_, hP⟩
        obtain ⟨x, hx, hxg, hx3⟩ := hasPut_iff.1 hP
        rw [← e2, hd] at hx
        rcases List.mem_append.1 hx with z | z
        · rw [hr x z] at hxg; cases hxg
        · rcases List.mem_cons.1 z with rfl | z
          · exact hx3 t3
          · exact hx3 (hg3 x z))
    rw [e2] at h3
    exact h3.out
end
end Go.Proofs.YthhkpkfpifllkaaGreat

namespace Go.Proofs.YthhkpkfpifllkaaGreat
open Go.RowKit
set_option linter.unusedVariables false

theorem stays_kept {major : Bool} {low : Int} {v : Vd} (h : staysS major low v = true) : kept v = true := by
  unfold staysS at h
  unfold kept
  by_cases h5 : v.fate = 5
  · simp [h5]
  · by_cases h6 : v.fate = 6
    · simp [h6]
    · by_cases h7 : v.fate = 7
      · simp [h7]
      · simp [h5, h6, h7] at h
theorem filter_stays (major : Bool) (low : Int) (vs : List Vd) : vs.filter (staysS major low) = (vs.filter kept).filter (staysS major low) := by
  rw [List.filter_filter]
  apply List.filter_congr
  intro v _
  cases h : staysS major low v with
  | false => rfl
  | true => rw [stays_kept h]; rfl
section
variable {fs : List (Int × Int)} {clock : Int}
theorem out_spec {m : List En} (hs : m.Pairwise Ah) (hv : ∀ e ∈ m, Va e) (major : Bool) (low : Int) : outS major low (verdictsS fs clock m) = ((m.filter fun x => staysS major low (sv fs clock m x)).map (sv fs clock m)).map Vd.e := by
  unfold outS
  rw [filter_stays, verdicts_spec hs hv, ← filter_stays, List.filter_map]
  rfl
theorem decideS_e (σ : Sp) (e : En) : (decideS fs clock σ e).1.e = e := by
  unfold decideS
  repeat' split
  all_goals rfl
def tld (m : List En) (x : En) : En := if 4 ≤ x.kind then x else if decidesS m x then { x with kind := kd m x } else x
theorem sv_e (m : List En) (x : En) : (sv fs clock m x).e = tld m x := by
  unfold sv tld
  split
  · rfl
  · split
    · exact decideS_e _ _
    · rfl
theorem kd_cases (m : List En) (x : En) : kd m x = x.kind ∨ (x.kind = 3 ∧ kd m x = 2) := by
  unfold kd
  split
  · rename_i h; exact .inr ⟨h.1, rfl⟩
  · exact .inl rfl
theorem tld_eq (m : List En) (x : En) : (tld m x).row = x.row ∧ (tld m x).fam = x.fam ∧ (tld m x).qual = x.qual ∧ (tld m x).ts = x.ts ∧ (tld m x).seq = x.seq ∧ (tld m x).val = x.val ∧ ((tld m x).kind = x.kind ∨ (x.kind = 3 ∧ (tld m x).kind = 2)) := by
  unfold tld
  split
  · exact ⟨rfl, rfl, rfl, rfl, rfl, rfl, .inl rfl⟩
  · split
    · exact ⟨rfl, rfl, rfl, rfl, rfl, rfl, kd_cases m x⟩
    · exact ⟨rfl, rfl, rfl, rfl, rfl, rfl, .inl rfl⟩
theorem tld_ah (m : List En) {a b : En} (h : Ah a b) : Ah (tld m a) (tld m b) := by
  obtain ⟨a1, a2, a3, a4, a5, _, a7⟩ := tld_eq m a
  obtain ⟨b1, b2, b3, b4, b5, _, b7⟩ := tld_eq m b
  have e5 : ((tld m a).kind = 5 ↔ (tld m b).kind = 5) ↔ (a.kind = 5 ↔ b.kind = 5) := by omega
  have e4 : ((tld m a).kind = 4 ↔ (tld m b).kind = 4) ↔ (a.kind = 4 ↔ b.kind = 4) := by omega
  constructor
  · rw [a1, b1]; exact h.row
  · rw [a1, b1, a2, b2]; exact h.fam
  · rw [a1, b1, a2, b2]; intro x y z; have := h.k5 x y (by omega); omega
  · rw [a1, b1, a2, b2, a3, b3, e5]; exact h.qual
  · rw [a1, b1, a2, b2, a3, b3, e5]; intro x y z u v; have := h.k4 x y z u (by omega); omega
  · rw [a1, b1, a2, b2, a3, b3, a4, b4, e5, e4]; exact h.ts
  · rw [a1, b1, a2, b2, a3, b3, a4, b4, a5, b5, e5, e4]; exact h.seq
theorem tld_sorted {m : List En} (hs : m.Pairwise Ah) (P : En → Bool) : ((m.filter P).map (tld m)).Pairwise Ah := by
  rw [List.pairwise_map]
  exact (hs.filter P).imp (fun h => tld_ah m h)
theorem one_decides {m : List En} (hs : m.Pairwise Ah) {x y : En} (hx : x ∈ m) (hy : y ∈ m) (hg : gpE x y = true) (dx : decidesS m x = true) (dy : decidesS m y = true) : x = y := by
  obtain ⟨g1, g2, g3, g4, g5, g6⟩ := gpE_iff.1 hg
  have h1 := decides_iff.1 dy x hx hg
  have h2 := decides_iff.1 dx y hy (gpE_iff.2 ⟨g2, g1, g3.symm, g4.symm, g5.symm, g6.symm⟩)
  obtain ⟨a, b, rfl⟩ := List.append_of_mem hx
  have hp := List.pairwise_append.1 hs
  rcases List.mem_append.1 hy with z | z
  · have := (hp.2.2 y z x List.mem_cons_self).seq g3.symm g4.symm (by omega) g5.symm (by omega) g6.symm
    omega
  · rcases List.mem_cons.1 z with z | z
    · exact z.symm
    · have := ((List.pairwise_cons.1 hp.2.1).1 y z).seq g3 g4 (by omega) g5 (by omega) g6
      omega
theorem out_tld {m : List En} (hs : m.Pairwise Ah) (hv : ∀ e ∈ m, Va e) (major : Bool) (low : Int) : outS major low (verdictsS fs clock m) = (m.filter fun x => staysS major low (sv fs clock m x)).map (tld m) := by
  rw [out_spec hs hv, List.map_map]
  apply List.map_congr_left
  intro x _
  exact sv_e m x
theorem sv_mark {m : List En} {x : En} (h : 4 ≤ x.kind) : sv fs clock m x = ⟨x, if shadow m x then 8 else 7, 0⟩ := by unfold sv; rw [if_pos h]
theorem stays_ver {m : List En} {x : En} {major : Bool} {low : Int} (h : x.kind ≤ 3) (hp : staysS major low (sv fs clock m x) = true) : decidesS m x = true ∧ maskOf m x < x.ts ∧ expS fs clock x = false ∧ (kd m x ≠ 3 → above fs clock m x + 1 ≤ (famAt fs x.fam).1) := by
  unfold sv at hp
  rw [if_neg (by omega)] at hp
  cases hd : decidesS m x with
  | false => rw [hd] at hp; simp [staysS] at hp
  | true =>
    rw [hd, if_pos rfl] at hp
    unfold decideS at hp
    simp only at hp
    by_cases h1 : x.ts ≤ maskOf m x
    · rw [if_pos h1] at hp; simp [staysS] at hp
    · rw [if_neg h1] at hp
      by_cases h2 : 0 < (famAt fs x.fam).2 ∧ x.ts + (famAt fs x.fam).2 ≤ clock
      · rw [if_pos h2] at hp; simp [staysS] at hp
      · rw [if_neg h2] at hp
        refine ⟨rfl, by omega, by simpa [expS] using h2, fun h3 => ?_⟩
        rw [if_neg h3] at hp
        by_cases h4 : (famAt fs x.fam).1 < above fs clock m x + 1
        · simp [staysS, h4] at hp
        · omega
theorem sv_ver {m : List En} {x : En} (h : x.kind ≤ 3) (hd : decidesS m x = true) (hm : maskOf m x < x.ts) (he : expS fs clock x = false) : sv fs clock m x = if kd m x = 3 then ⟨{ x with kind := kd m x }, 6, 0⟩ else ⟨{ x with kind := kd m x }, if (famAt fs x.fam).1 < above fs clock m x + 1 then 4 else 5, above fs clock m x + 1⟩ := by
  have h2 : ¬ (0 < (famAt fs x.fam).2 ∧ x.ts + (famAt fs x.fam).2 ≤ clock) := by simpa [expS] using he
  unfold sv
  rw [if_neg (by omega), if_pos hd]
  unfold decideS
  simp only
  rw [if_neg (by omega), if_neg h2]
  split <;> rfl
theorem tld_ver {m : List En} {x : En} (h : x.kind ≤ 3) (hd : decidesS m x = true) : tld m x = { x with kind := kd m x } := by
  unfold tld
  rw [if_neg (by omega), if_pos hd]
theorem above_le {m : List En} {x y : En} (hM : mates y x = true) (ht : x.ts < y.ts) : above fs clock m y ≤ above fs clock m x := by
  unfold above
  rw [← List.countP_eq_length_filter, ← List.countP_eq_length_filter]
  have := List.countP_mono_left (l := m) (p := fun z => counts fs clock m z && mates z y && decide (y.ts < z.ts)) (q := fun z => counts fs clock m z && mates z x && decide (x.ts < z.ts)) (fun z _ hz => by
    simp only [Bool.and_eq_true, decide_eq_true_eq] at hz ⊢
    obtain ⟨⟨h1, h2⟩, h3⟩ := hz
    have a := mates_iff.1 hM
    have b := mates_iff.1 h2
    exact ⟨⟨h1, mates_iff.2 ⟨b.1.trans a.1, b.2.1.trans a.2.1, b.2.2.trans a.2.2⟩⟩, by omega⟩)
  omega
section
variable {m : List En} {major : Bool} {low : Int}
def leftL (fs : List (Int × Int)) (clock : Int) (m : List En) (major : Bool) (low : Int) : List En := (m.filter fun x => staysS major low (sv fs clock m x)).map (tld m)
end
end
end Go.Proofs.YthhkpkfpifllkaaGreat

namespace Go.Proofs.YthhkpkfpifllkaaGreat
open Go.RowKit
set_option linter.unusedVariables false

theorem va_of_check {k : Nat} {e : EntD} (h : check3S k e = 0) : Va e.dat := by
  unfold check3S at h
  by_cases hc : checkS e = 0
  · unfold checkS at hc
    repeat' split at hc
    all_goals first | (exfalso; omega) | skip
    have hq : ∀ l : List Nat, ¬ 0 < l.length → l = [] := fun l hl => List.eq_nil_of_length_eq_zero (by omega)
    refine ⟨?_, ?_, ?_, fun z => hq _ (fun y => ?_), fun z => hq _ (fun y => ?_)⟩
    · show 1 ≤ e.kind; omega
    · show e.kind ≤ 5; omega
    · show 1 ≤ e.ts; omega
    · have z : e.kind ≠ 1 := z
      have y : 0 < e.val.length := y
      omega
    · have z : e.kind = 5 := z
      have y : 0 < e.qual.length := y
      omega
  · rw [if_pos hc] at h
    omega
theorem mark_cases (k a : Int) : (mark k a : Int) = if k = a then 0 else 1 := by
  unfold mark
  split <;> rfl
theorem cmpI_le {a b : Int} (h : cmpI a b ≤ 0) : a ≤ b := by
  unfold cmpI at h
  repeat' split at h
  all_goals omega
theorem cmpI_zero3 {a b : Int} : cmpI a b = 0 ↔ a = b := by
  unfold cmpI
  repeat' split
  all_goals omega
theorem lex_le {a b : Int} (h : (if a = 0 then b else a) ≤ 0) : a ≤ 0 ∧ (a = 0 → b ≤ 0) := by
  by_cases z : a = 0
  · rw [if_pos z] at h; exact ⟨by omega, fun _ => h⟩
  · rw [if_neg z] at h; exact ⟨h, fun y => absurd y z⟩
theorem ah_of {x y : EntD} (h : compareS x y ≤ 0) (hne : x.seq ≠ y.seq) : Ah x.dat y.dat := by
  unfold compareS cmpsS at h
  simp only [firstNZ] at h
  obtain ⟨h1, h⟩ := lex_le h
  have r0 : x.row = y.row → ordC x.row y.row = 0 := fun e => by rw [e]; exact ordC_self _
  have q0 : x.qual = y.qual → ordC x.qual y.qual = 0 := fun e => by rw [e]; exact ordC_self _
  have a5 : (x.kind = 5 ↔ y.kind = 5) → aheadS x y 5 = 0 := fun e => by
    unfold aheadS
    rw [cmpI_zero3, mark_cases, mark_cases]
    split <;> split <;> omega
  have a4 : (x.kind = 4 ↔ y.kind = 4) → aheadS x y 4 = 0 := fun e => by
    unfold aheadS
    rw [cmpI_zero3, mark_cases, mark_cases]
    split <;> split <;> omega
  refine ⟨h1, fun e1 => ?_, fun e1 e2 e3 => ?_, fun e1 e2 e3 => ?_, fun e1 e2 e3 e4 e5 => ?_, fun e1 e2 e3 e4 e5 => ?_, fun e1 e2 e3 e4 e5 e6 => ?_⟩
  · exact cmpI_le (lex_le (h (r0 e1))).1
  · have := (lex_le ((lex_le (h (r0 e1))).2 (cmpI_zero3.2 e2))).1
    have := cmpI_le this
    rw [mark_cases, mark_cases] at this
    show x.kind = 5
    have e3 : y.kind = 5 := e3
    rw [if_pos e3] at this
    split at this
    · assumption
    · omega
  · exact (lex_le ((lex_le ((lex_le (h (r0 e1))).2 (cmpI_zero3.2 e2))).2 (a5 e3))).1
  · have := (lex_le ((lex_le ((lex_le ((lex_le (h (r0 e1))).2 (cmpI_zero3.2 e2))).2 (a5 e3))).2 (q0 e4))).1
    have := cmpI_le this
    rw [mark_cases, mark_cases] at this
    show x.kind = 4
    have e5 : y.kind = 4 := e5
    rw [if_pos e5] at this
    split at this
    · assumption
    · omega
  · exact cmpI_le (lex_le ((lex_le ((lex_le ((lex_le ((lex_le (h (r0 e1))).2 (cmpI_zero3.2 e2))).2 (a5 e3))).2 (q0 e4))).2 (a4 e5))).1
  · have := cmpI_le (lex_le ((lex_le ((lex_le ((lex_le ((lex_le ((lex_le (h (r0 e1))).2 (cmpI_zero3.2 e2))).2 (a5 e3))).2 (q0 e4))).2 (a4 e5))).2 (cmpI_zero3.2 e6.symm))).1
    show y.seq < x.seq
    omega
theorem ah_irrefl {a : En} (h : Ah a a) : False := by
  have := h.seq rfl rfl Iff.rfl rfl Iff.rfl rfl
  omega
theorem ah_asymm {a b : En} (h : Ah a b) (k : Ah b a) : False := by
  have r : a.row = b.row := by have := ordC_swap a.row b.row; have := h.row; have := k.row; exact ordC_eq _ _ (by omega)
  have f : a.fam = b.fam := by have := h.fam r; have := k.fam r.symm; omega
  have k5 : a.kind = 5 ↔ b.kind = 5 := ⟨k.k5 r.symm f.symm, h.k5 r f⟩
  have q : a.qual = b.qual := by have := ordC_swap a.qual b.qual; have := h.qual r f k5; have := k.qual r.symm f.symm k5.symm; exact ordC_eq _ _ (by omega)
  have k4 : a.kind = 4 ↔ b.kind = 4 := ⟨k.k4 r.symm f.symm k5.symm q.symm, h.k4 r f k5 q⟩
  have t : a.ts = b.ts := by have := h.ts r f k5 q k4; have := k.ts r.symm f.symm k5.symm q.symm k4.symm; omega
  have := h.seq r f k5 q k4 t
  have := k.seq r.symm f.symm k5.symm q.symm k4.symm t.symm
  omega
theorem ord_unique : ∀ {l l' : List En}, l.Pairwise Ah → l'.Pairwise Ah → (∀ e, e ∈ l ↔ e ∈ l') → l = l'
  | [], [], _, _, _ => rfl
  | [], b :: t', _, _, h => by have := (h b).2 List.mem_cons_self; cases this
  | a :: t, [], _, _, h => by have := (h a).1 List.mem_cons_self; cases this
  | a :: t, b :: t', hl, hl', h => by
    have p := List.pairwise_cons.1 hl
    have p' := List.pairwise_cons.1 hl'
    have e : a = b := by
      rcases List.mem_cons.1 ((h a).1 List.mem_cons_self) with e | m1
      · exact e
      · rcases List.mem_cons.1 ((h b).2 List.mem_cons_self) with e | m2
        · exact e.symm
        · exact (ah_asymm (p.1 b m2) (p'.1 a m1)).elim
    subst e
    congr 1
    refine ord_unique p.2 p'.2 fun x => ⟨fun hx => ?_, fun hx => ?_⟩
    · rcases List.mem_cons.1 ((h x).1 (List.mem_cons_of_mem _ hx)) with rfl | q
      · exact (ah_irrefl (p.1 x hx)).elim
      · exact q
    · rcases List.mem_cons.1 ((h x).2 (List.mem_cons_of_mem _ hx)) with rfl | q
      · exact (ah_irrefl (p'.1 x hx)).elim
      · exact q
def EntD.ofEn (e : En) : EntD := ⟨.slice none 0 0, e.fam, .slice none 0 0, e.ts, e.seq, e.kind, .slice none 0 0, e.row, e.qual, e.val⟩
theorem check_dat (k : Nat) (x : EntD) : check3S k x = check3S k (EntD.ofEn x.dat) := rfl
structure IsOrd (k : Nat) (l m : List En) : Prop where
  ah : m.Pairwise Ah
  ne : m.Pairwise fun a b => a.seq ≠ b.seq
  va : ∀ e ∈ m, Va e
  ck : ∀ e ∈ m, check3S k (EntD.ofEn e) = 0
  mem : ∀ e, e ∈ m ↔ e ∈ l
theorem IsOrd.unique {k k' : Nat} {l m m' : List En} (h : IsOrd k l m) (h' : IsOrd k' l m') : m = m' := ord_unique h.ah h'.ah fun e => (h.mem e).trans (h'.mem e).symm
theorem sameS_dat {a b : EntD} (h : sameS a b = true) : a.dat = b.dat := by
  unfold sameS at h
  simp only [Bool.and_eq_true, decide_eq_true_eq] at h
  obtain ⟨h1, h2⟩ := h
  unfold compareS cmpsS at h1
  simp only [firstNZ] at h1
  have z : ∀ {a b : Int}, (if a = 0 then b else a) = 0 → a = 0 ∧ b = 0 := fun {a b} e => by
    by_cases y : a = 0
    · rw [if_pos y] at e; exact ⟨y, e⟩
    · rw [if_neg y] at e; exact absurd e y
  obtain ⟨z1, h1⟩ := z h1
  obtain ⟨z2, h1⟩ := z h1
  obtain ⟨z3, h1⟩ := z h1
  obtain ⟨z4, h1⟩ := z h1
  obtain ⟨z5, h1⟩ := z h1
  obtain ⟨z6, h1⟩ := z h1
  obtain ⟨z7, h1⟩ := z h1
  obtain ⟨z8, h1⟩ := z h1
  unfold EntD.dat
  rw [ordC_eq _ _ z1, cmpI_zero3.1 z2, ordC_eq _ _ z4, ← cmpI_zero3.1 z6, ← cmpI_zero3.1 z7, cmpI_zero3.1 z8, h2]
theorem sameS_of {a b : EntD} (h : a.dat = b.dat) : sameS a b = true := by
  have e := EntD.dat_same.1 h
  have : compareS a b = 0 := by rw [compareS_same (c := b) (d := b) e (EntD.dat_same.1 rfl)]; exact compareS_self b
  unfold sameS
  rw [this, e.2.2.2.2.2.2]
  simp
theorem once_all (l : List EntD) : ∀ (acc xs : List EntD), (acc.Pairwise fun a b => a.seq ≠ b.seq) → l.foldl (fun o e => o.bind fun xs => addO xs e) (some acc) = some xs → (xs.Pairwise fun a b => a.seq ≠ b.seq) ∧ ∀ d, d ∈ xs.map EntD.dat ↔ d ∈ (acc ++ l).map EntD.dat := by
  induction l with
  | nil => intro acc xs hp h; cases h; exact ⟨hp, fun d => by rw [List.append_nil]⟩
  | cons e r ih =>
    intro acc xs hp h
    have h2 : r.foldl (fun o e => o.bind fun xs => addO xs e) (addO acc e) = some xs := h
    cases hf : acc.find? (fun x => x.seq == e.seq) with
    | none =>
      have ha : addO acc e = some (acc ++ [e]) := by unfold addO; rw [hf]
      rw [ha] at h2
      have hn := List.find?_eq_none.1 hf
      have := ih (acc ++ [e]) xs (List.pairwise_append.2 ⟨hp, List.pairwise_singleton _ _, fun x hx y hy => by
        rw [List.mem_singleton] at hy
        subst hy
        have := hn x hx
        simpa using this⟩) h2
      refine ⟨this.1, fun d => ?_⟩
      rw [this.2 d, List.append_assoc]
      rfl
    | some x =>
      have ha : addO acc e = if sameS x e then some acc else none := addO_old hf
      rw [ha] at h2
      cases hs : sameS x e with
      | false => rw [hs] at h2; rw [if_neg (by simp), once_none] at h2; cases h2
      | true =>
        rw [hs, if_pos rfl] at h2
        have := ih acc xs hp h2
        refine ⟨this.1, fun d => ?_⟩
        rw [this.2 d, List.map_append, List.map_append, List.map_cons, List.mem_append, List.mem_append, List.mem_cons]
        have xd := sameS_dat hs
        have xm : x ∈ acc := List.mem_of_find?_eq_some hf
        constructor
        · rintro (q | q)
          · exact .inl q
          · exact .inr (.inr q)
        · rintro (q | q | q)
          · exact .inl q
          · exact .inl (by rw [q, ← xd]; exact List.mem_map_of_mem xm)
          · exact .inr q
theorem isOrd_of {k : Nat} {l xs ys : List EntD} (hc : inOrderE (check3S k) l = 0) (ho : onceS l = some xs) (hp : ys.Perm xs) (hs : ys.Pairwise fun x y => compareS x y ≤ 0) : IsOrd k (l.map EntD.dat) (ys.map EntD.dat) := by
  obtain ⟨hall, -⟩ := inOrder_ok hc
  obtain ⟨h1, h2⟩ := once_all l [] xs List.Pairwise.nil ho
  have hne : ys.Pairwise fun a b => a.seq ≠ b.seq := (hp.pairwise_iff (fun h => Ne.symm h)).2 h1
  have hmem : ∀ y ∈ ys, y ∈ l := fun y hy => onceS_mem ho y (hp.mem_iff.1 hy)
  refine ⟨?_, ?_, fun e he => ?_, fun e he => ?_, fun e => ?_⟩
  · rw [List.pairwise_map]
    exact (hs.and hne).imp fun h => ah_of h.1 h.2
  · rw [List.pairwise_map]; exact hne
  · obtain ⟨y, hy, rfl⟩ := List.mem_map.1 he
    exact va_of_check (hall y (hmem y hy))
  · obtain ⟨y, hy, rfl⟩ := List.mem_map.1 he
    exact hall y (hmem y hy)
  · rw [(hp.map EntD.dat).mem_iff]
    exact h2 e
theorem once_self (l : List EntD) : ∀ (acc : List EntD), ((acc ++ l).Pairwise fun a b => a.seq ≠ b.seq) → l.foldl (fun o e => o.bind fun xs => addO xs e) (some acc) = some (acc ++ l) := by
  induction l with
  | nil => intro acc _; rw [List.append_nil]; rfl
  | cons e r ih =>
    intro acc hp
    show r.foldl (fun o e => o.bind fun xs => addO xs e) (addO acc e) = _
    have hf : acc.find? (fun x => x.seq == e.seq) = none := List.find?_eq_none.2 fun x hx => by
      have := (List.pairwise_append.1 hp).2.2 x hx e List.mem_cons_self
      simpa using this
    have ha : addO acc e = some (acc ++ [e]) := by unfold addO; rw [hf]
    rw [ha, ih (acc ++ [e]) (by rw [List.append_assoc]; exact hp), List.append_assoc]
    rfl
theorem check_zero {k : Nat} {e : EntD} : check3S k e = 0 ↔ (¬ (e.row.length = 0 ∨ 256 < e.row.length) ∧ ¬ (e.fam < 0 ∨ 8 ≤ e.fam) ∧ ¬ (256 < e.qual.length ∨ (0 < e.qual.length ∧ e.kind = 5)) ∧ ¬ (e.ts < 1 ∨ 1099511627776 < e.ts) ∧ ¬ (e.seq < 0 ∨ 17592186044431 < e.seq) ∧ ¬ (e.kind < 1 ∨ 5 < e.kind) ∧ ¬ (4096 < e.val.length ∨ (0 < e.val.length ∧ e.kind ≠ 1))) ∧ ¬ (k : Int) ≤ e.fam := by
  constructor
  · intro h
    unfold check3S at h
    by_cases z : checkS e = 0
    · rw [if_neg (by simpa using z)] at h
      refine ⟨?_, fun y => by rw [if_pos y] at h; cases h⟩
      unfold checkS at z
      repeat' split at z
      all_goals first | (exfalso; omega) | skip
      refine ⟨by assumption, by assumption, by assumption, by assumption, by assumption, by assumption, by assumption⟩
    · rw [if_pos z] at h; omega
  · rintro ⟨⟨h1, h2, h3, h4, h5, h6, h7⟩, h8⟩
    have z : checkS e = 0 := by unfold checkS; rw [if_neg h1, if_neg h2, if_neg h3, if_neg h4, if_neg h5, if_neg h6, if_neg h7]
    unfold check3S
    rw [if_neg (by simpa using z), if_neg h8]
end Go.Proofs.YthhkpkfpifllkaaGreat

namespace Go.Proofs.YthhkpkfpifllkaaGreat
open Go.RowKit
set_option linter.unusedVariables false

theorem sort_ok : SortP := sort_holds fun c' Z => AnyF.slices_SortFunc_none (P := Tryz.prog) (ρ := laidSort) laysSort none c' _ Z
theorem squash_all {W : World} {cap fc : Nat} {a fa : Option Addr} {fs : List FamD} {l : List EntD} (hr : RdF W (.slice fa fs.length fc) fs) (hn : fa = none → fc = 0) (C : Nat) (hC : (C = 0 ↔ SchemaOk fs) ∧ (C = 0 ∨ C = 28)) (clock low : Int) (major : Bool) (h0 : RdL3 W a cap l) (hl : l.length ≤ 1353245080300) :
    Calls Tryz.prog 23 #[.agg #[.slice fa fs.length fc], .int .i64 clock, .bool major, .int .i64 low, .slice a l.length cap] W fun r W' => Below W.heap.size W W' ∧ (squashE C fs clock low l ≠ 0 → r = .returned (.tuple #[.slice none 0 0, .int .i64 (squashE C fs clock low l)])) ∧ (squashE C fs clock low l = 0 → ∃ (zs : List EntD) (m : List En) (v : Value) (O : Nat → Prop), IsOrd fs.length (l.map EntD.dat) m ∧ r = .returned (.tuple #[v, .int .i64 0]) ∧ Rw W' W.heap.size v zs O ∧ zs.map EntD.dat = outS major low (verdictsS (mt fs) clock m) ∧ zs.length ≤ l.length) := by
  refine Calls.mono (squash_any sort_ok hr hn C hC clock low major h0 hl) ?_
  rintro r W' ⟨h1, h2, h3⟩
  refine ⟨h1, h2, fun z => ?_⟩
  obtain ⟨xs, ys, zs, v, O, k1, k2, k3, k4, k5, k6⟩ := h3 z
  have hi : inOrderE (check3S fs.length) l = 0 := by
    unfold squashE at z
    by_cases y : boundsS C [clock, low] = 0
    · rwa [if_neg (by simpa using y)] at z
    · rw [if_pos y] at z; exact absurd z y
  have ho := isOrd_of hi k1 k2 k3
  refine ⟨zs, _, v, O, ho, k4, k5, k6, ?_⟩
  have e : zs.length = (outS major low (verdictsS (mt fs) clock (ys.map EntD.dat))).length := by rw [← k6, List.length_map]
  rw [e, out_tld ho.ah ho.va, List.length_map]
  refine Nat.le_trans (List.length_filter_le _ _) ?_
  rw [List.length_map, k2.length_eq]
  exact onceS_len k1
end Go.Proofs.YthhkpkfpifllkaaGreat

namespace Go.Proofs.YthhkpkfpifllkaaGreat
open Go.RowKit
set_option linter.unusedVariables false

instance (a b : EntD) : Decidable (EntD.Same a b) := by unfold EntD.Same; infer_instance
set_option maxRecDepth 100000 in
theorem alike_any {a b : Value} {xs ys : List Nat} {w : World} (ha : Rd w a xs) (hb : Rd w b ys) :
    Calls Tryz.prog 78 #[a, b] w fun e w' => e = .returned (.bool (decide (xs = ys))) ∧ w' = w := by
  have h1 := conv_str ha
  have h2 := conv_str hb
  go_enter Tryz.func78, Tryz.ntmps78
  go_wp2
  go_ret
  exact ⟨by rw [← beq_str ha.1 hb.1]; rfl, rfl⟩
theorem alikeB_any {a b : Value} {xs ys : List Nat} {w : World} (ha : Rd w a xs) (hb : Rd w b ys) :
    Calls Tryz.prog 78 #[a, b] w fun e w' => e = .returned (.bool (decide (xs = ys))) ∧ Below w.heap.size w w' :=
  Calls.mono (alike_any ha hb) fun r w' h => ⟨h.1, by rw [h.2]; exact Below.refl _ _⟩

set_option maxRecDepth 100000 in
set_option maxHeartbeats 8000000 in
theorem same3r_any {a b : EntD} {w : World} (ha : EntD.Ok w a) (hb : EntD.Ok w b) :
    Calls Tryz.prog 45 #[.agg a.cells, .agg b.cells] w fun r w' => r = .returned (.bool (decide (EntD.Same a b))) ∧ Below w.heap.size w w' := by
  have A1 := (Below.refl w.heap.size w).alloc (Nat.le_refl _) (.cells a.cells 84)
  have A2 := A1.alloc A1.size (.cells b.cells 84)
  have bxa0 := (EBox.new w a).later ((Below.refl (w.alloc (.cells a.cells 84)).heap.size (w.alloc (.cells a.cells 84))).alloc (Nat.le_refl _) (.cells b.cells 84))
  have bxb0 := EBox.new (w.alloc (.cells a.cells 84)) b
  rw [World.size_alloc] at bxb0
  obtain ⟨V, hV⟩ : ∃ V, V = (w.alloc (.cells a.cells 84)).alloc (.cells b.cells 84) := ⟨_, rfl⟩
  rw [← hV] at A2 bxa0 bxb0
  have HV : Hid (V = _) := hV
  clear hV A1
  have HX : Hid (EBox V w.heap.size a ∧ EBox V (w.heap.size + 1) b ∧ Below w.heap.size w V) := ⟨bxa0, bxb0, A2⟩
  have HA : Hid (∀ wx, Below V.heap.size V wx → EntD.Ok wx a ∧ EntD.Ok wx b ∧ EBox wx w.heap.size a ∧ EBox wx (w.heap.size + 1) b) := fun wx q => ⟨(ha.later A2).later q, (hb.later A2).later q, bxa0.later q, bxb0.later q⟩
  obtain ⟨c0, c1, c2, c3, c4, c5, c6⟩ := (⟨bxa0.vr, bxa0.fam, bxa0.vq, bxa0.ts, bxa0.seq, bxa0.kind, bxa0.vv⟩ : _ ∧ _ ∧ _ ∧ _ ∧ _ ∧ _ ∧ _)
  obtain ⟨d0, d1, d2, d3, d4, d5, d6⟩ := (⟨bxb0.vr, bxb0.fam, bxb0.vq, bxb0.ts, bxb0.seq, bxb0.kind, bxb0.vv⟩ : _ ∧ _ ∧ _ ∧ _ ∧ _ ∧ _ ∧ _)
  clear A2 bxa0 bxb0 ha hb
  obtain ⟨va, fa, qa, ta, sa, ka, wa, ra, la, ya⟩ := a
  obtain ⟨vb, fb, qb, tb, sb, kb, wb, rb, lb, yb⟩ := b
  simp only [EntD.cells] at *
  by_cases h1 : fa = fb
  · by_cases h2 : ta = tb
    · by_cases h3 : sa = sb
      · by_cases h4 : ka = kb
        · subst h1 h2 h3 h4
          go_enter Tryz.func45, Tryz.ntmps45
          go_wp2_with fail
          rw [← HV.out]
          go_wp2_with fail
          refine (alikeB_any (HA.out _ (Below.refl _ _)).1.1 (HA.out _ (Below.refl _ _)).2.1.1).mono ?_
          rintro e w1 ⟨rfl, hb1⟩
          by_cases e1 : ra = rb
          · rw [decide_eq_true e1]
            have x2 := (HA.out _ hb1).2.2.1.vq
            have y2 := (HA.out _ hb1).2.2.2.vq
            simp only at x2 y2
            go_wp2_with fail
            refine (alikeB_any (HA.out _ hb1).1.2.1 (HA.out _ hb1).2.1.2.1).mono ?_
            rintro e w2 ⟨rfl, hb2⟩
            have B2 := hb1.trans (hb2.mono hb1.size)
            by_cases e2 : la = lb
            · rw [decide_eq_true e2]
              have x6 := (HA.out _ B2).2.2.1.vv
              have y6 := (HA.out _ B2).2.2.2.vv
              simp only at x6 y6
              go_wp2_with fail
              refine (alikeB_any (HA.out _ B2).1.2.2 (HA.out _ B2).2.1.2.2).mono ?_
              rintro e w3 ⟨rfl, hb3⟩
              have B3 := B2.trans (hb3.mono B2.size)
              by_cases e3 : ya = yb
              · rw [decide_eq_true e3]
                go_wp2
                go_ret
                have hd : decide (EntD.Same ⟨va, fa, qa, ta, sa, ka, wa, ra, la, ya⟩ ⟨vb, fa, qb, ta, sa, ka, wb, rb, lb, yb⟩) = true := decide_eq_true ⟨rfl, rfl, rfl, rfl, e1, e2, e3⟩
                rw [hd]
                exact ⟨rfl, HX.out.2.2.trans (B3.mono HX.out.2.2.size)⟩
              · rw [decide_eq_false e3]
                go_wp2
                go_ret
                rw [decide_eq_false (show ¬ EntD.Same _ _ from fun h => e3 h.2.2.2.2.2.2)]
                exact ⟨rfl, HX.out.2.2.trans (B3.mono HX.out.2.2.size)⟩
            · rw [decide_eq_false e2]
              go_wp2
              go_ret
              rw [decide_eq_false (show ¬ EntD.Same _ _ from fun h => e2 h.2.2.2.2.2.1)]
              exact ⟨rfl, HX.out.2.2.trans (B2.mono HX.out.2.2.size)⟩
          · rw [decide_eq_false e1]
            go_wp2
            go_ret
            rw [decide_eq_false (show ¬ EntD.Same _ _ from fun h => e1 h.2.2.2.2.1)]
            exact ⟨rfl, HX.out.2.2.trans (hb1.mono HX.out.2.2.size)⟩
        · subst h1 h2 h3
          go_enter Tryz.func45, Tryz.ntmps45
          go_wp2_with fail
          rw [← HV.out]
          go_wp2
          go_ret
          rw [decide_eq_false (show ¬ EntD.Same _ _ from fun h => h4 h.2.2.2.1)]
          exact ⟨rfl, HX.out.2.2⟩
      · subst h1 h2
        go_enter Tryz.func45, Tryz.ntmps45
        go_wp2_with fail
        rw [← HV.out]
        go_wp2
        go_ret
        rw [decide_eq_false (show ¬ EntD.Same _ _ from fun h => h3 h.2.2.1)]
        exact ⟨rfl, HX.out.2.2⟩
    · subst h1
      go_enter Tryz.func45, Tryz.ntmps45
      go_wp2_with fail
      rw [← HV.out]
      go_wp2
      go_ret
      rw [decide_eq_false (show ¬ EntD.Same _ _ from fun h => h2 h.2.1)]
      exact ⟨rfl, HX.out.2.2⟩
  · go_enter Tryz.func45, Tryz.ntmps45
    go_wp2_with fail
    rw [← HV.out]
    go_wp2
    go_ret
    rw [decide_eq_false (show ¬ EntD.Same _ _ from fun h => h1 h.1)]
    exact ⟨rfl, HX.out.2.2⟩
end Go.Proofs.YthhkpkfpifllkaaGreat
