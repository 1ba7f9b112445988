import Derived.Test.YthhkpkfpifllkaaGreatK10
namespace Go.Proofs.YthhkpkfpifllkaaGreat
open Go.RowKit
set_option linter.unusedVariables false

section
variable {fs : List (Int × Int)} {clock : Int}
def rankIn (E : List En) (e : En) : Int := ((E.filter fun y => mates y e && decide (e.ts < y.ts)).length : Int) + 1
def isFive (v : Vd) : Bool := decide (v.fate = 5)
theorem sv_five {m : List En} {x : En} (hx : x ∈ m) (h : (sv fs clock m x).fate = 5) : sv fs clock m x = ⟨tld m x, 5, above fs clock m x + 1⟩ := by
  obtain ⟨h3, hd, hp, hm, he, ha⟩ := (five_iff hx).1 h
  rw [sv_ver h3 hd hm he, if_neg ((kd_put hx h3).2 hp), if_neg (by omega), tld_ver h3 hd]
theorem five_above {m : List En} (hs : m.Pairwise Ah) {x : En} (hx : x ∈ m) (h : (sv fs clock m x).fate = 5) : above fs clock m x + 1 = rankIn (fiveL fs clock m) (tld m x) := by
  obtain ⟨h3, hd, hp, hm, he, ha⟩ := (five_iff hx).1 h
  obtain ⟨a1, a2, a3, a4, a5, a6, a7⟩ := tld_eq m x
  unfold rankIn fiveL above
  rw [List.filter_map, List.length_map, List.filter_filter]
  congr 3
  apply List.filter_congr
  intro y hy
  obtain ⟨b1, b2, b3, b4, b5, b6, b7⟩ := tld_eq m y
  have em : mates (tld m y) (tld m x) = mates y x := by simp only [mates, a1, a2, a3, b1, b2, b3]
  simp only [Function.comp, em, a4, b4]
  rw [Bool.eq_iff_iff]
  simp only [Bool.and_eq_true, decide_eq_true_eq]
  constructor
  · rintro ⟨⟨c, M⟩, t⟩
    have cc := (counts_put hy).1 c
    have := above_le (fs := fs) (clock := clock) (m := m) M t
    have f := (mates_iff.1 M).2.1
    exact ⟨⟨M, t⟩, (five_iff hy).2 ⟨cc.1, cc.2.1, cc.2.2.1, cc.2.2.2.1, cc.2.2.2.2, by rw [f]; omega⟩⟩
  · rintro ⟨⟨M, t⟩, c⟩
    have cc := (five_iff hy).1 c
    exact ⟨⟨(counts_put hy).2 ⟨cc.1, cc.2.1, cc.2.2.1, cc.2.2.2.1, cc.2.2.2.2.1⟩, M⟩, t⟩
theorem five_vd {m : List En} (hs : m.Pairwise Ah) (hv : ∀ e ∈ m, Va e) : (verdictsS fs clock m).filter isFive = (fiveL fs clock m).map fun e => ⟨e, 5, rankIn (fiveL fs clock m) e⟩ := by
  have e1 : ∀ l : List Vd, l.filter isFive = (l.filter kept).filter isFive := fun l => by
    rw [List.filter_filter]
    apply List.filter_congr
    intro v _
    cases h : isFive v with
    | false => rfl
    | true =>
      have : kept v = true := by
        unfold isFive at h
        unfold kept
        simp only [decide_eq_true_eq] at h ⊢
        omega
      rw [this]; rfl
  rw [e1, verdicts_spec hs hv, ← e1, List.filter_map]
  conv => rhs; rw [fiveL]
  rw [List.map_map]
  have : (fun x => decide ((sv fs clock m x).fate = 5)) = isFive ∘ sv fs clock m := rfl
  rw [this]
  apply List.map_congr_left
  intro x hx
  obtain ⟨xm, hx⟩ := List.mem_filter.1 hx
  have h5 : (sv fs clock m x).fate = 5 := of_decide_eq_true hx
  rw [sv_five xm h5, five_above hs xm h5]
  rfl
theorem five_sorted {m : List En} (hs : m.Pairwise Ah) : (fiveL fs clock m).Pairwise Ah := tld_sorted hs _
theorem show_filter (tm n : Int) : ∀ (vs : List Vd) (s : Int × List En), (∀ v ∈ vs, v.rank = 1 → v.fate = 5) → (vs.filter isFive).foldl (showStep tm n) s = vs.foldl (showStep tm n) s
  | [], s, _ => rfl
  | v :: vs, s, h => by
    have ih := fun s => show_filter tm n vs s (fun v hv => h v (List.mem_cons_of_mem _ hv))
    by_cases h5 : v.fate = 5
    · have : isFive v = true := by unfold isFive; simp [h5]
      rw [List.filter_cons_of_pos this, List.foldl_cons, List.foldl_cons, ih]
    · have : ¬ isFive v = true := by unfold isFive; simp [h5]
      rw [List.filter_cons_of_neg this, List.foldl_cons, ih]
      have hr : v.rank ≠ 1 := fun z => h5 (h v List.mem_cons_self z)
      congr 1
      unfold showStep
      rw [if_neg (fun z => h5 z.1), if_neg hr]
theorem dec_rank {s : Sp} {e : En} (h : 0 < (decideS fs clock s e).1.rank) : (decideS fs clock s e).1.fate ≠ 1 := by
  unfold decideS at h ⊢
  repeat' split
  all_goals simp
theorem sv_rank {m : List En} {x : En} (hx : x ∈ m) (h : 0 < (sv fs clock m x).rank) : counts fs clock m x = true := by
  unfold sv at h
  by_cases k : 4 ≤ x.kind
  · rw [if_pos k] at h; simp at h
  · rw [if_neg k] at h
    cases hd : decidesS m x with
    | false => rw [hd] at h; simp at h
    | true =>
      rw [hd, if_pos rfl] at h
      unfold decideS at h
      simp only at h
      by_cases h1 : x.ts ≤ maskOf m x
      · rw [if_pos h1] at h; simp at h
      · rw [if_neg h1] at h
        by_cases h2 : 0 < (famAt fs x.fam).2 ∧ x.ts + (famAt fs x.fam).2 ≤ clock
        · rw [if_pos h2] at h; simp at h
        · rw [if_neg h2] at h
          by_cases h3 : kd m x = 3
          · rw [if_pos h3] at h; simp at h
          · exact counts_iff.2 ⟨by omega, hd, h3, by omega, by simpa [expS] using h2⟩
theorem verd_rank (l : List En) : ∀ v ∈ verdictsS fs clock l, 0 < v.rank → v.fate ≠ 1 := by
  have res : ∀ (s : Sp) (k : Int), ∀ v ∈ (resolveS fs clock s k).1, 0 < v.rank → v.fate ≠ 1 := by
    intro s k
    unfold resolveS
    split
    · intro v hv
      rw [List.mem_singleton] at hv
      rw [hv]
      exact dec_rank
    · intro v hv; cases hv
  have ent : ∀ (s : Sp) (e : En), ∀ v ∈ (enterS fs clock s e).1, 0 < v.rank → v.fate ≠ 1 := by
    intro s e
    unfold enterS
    split
    · intro v hv; cases hv
    · exact res s 3
  have step : ∀ (s : Sp) (e : En), ∀ v ∈ (stepS fs clock s e).1, 0 < v.rank → v.fate ≠ 1 := by
    intro s e
    have h1 := ent s e
    have z : ∀ v : Vd, v.rank = 0 → 0 < v.rank → v.fate ≠ 1 := fun v h k => by omega
    unfold stepS
    intro v hv
    split at hv
    · rcases List.mem_append.1 hv with q | q
      · exact h1 v q
      · rw [List.mem_singleton] at q
        refine z v ?_
        rw [q]
        unfold stretchS
        split <;> rfl
    · split at hv
      · split at hv
        · rcases List.mem_append.1 hv with q | q
          · exact h1 v q
          · rcases List.mem_append.1 q with q | q
            · exact res _ _ v q
            · rw [List.mem_singleton] at q
              exact z v (by rw [q])
        · rcases List.mem_append.1 hv with q | q
          · exact h1 v q
          · rw [List.mem_singleton] at q
            exact z v (by rw [q])
      · split at hv
        · exact h1 v hv
        · rcases List.mem_append.1 hv with q | q
          · exact h1 v q
          · rw [List.mem_singleton] at q
            rw [q]
            exact dec_rank
  have walk : ∀ (l : List En) (s : Sp), ∀ v ∈ (walkS fs clock s l).1, 0 < v.rank → v.fate ≠ 1 := by
    intro l
    induction l with
    | nil => intro s v hv; cases hv
    | cons e l ih =>
      intro s v hv
      rcases List.mem_append.1 hv with q | q
      · exact step s e v q
      · exact ih _ v q
  intro v hv
  rcases List.mem_append.1 hv with q | q
  · exact walk l _ v q
  · exact res _ _ v q
theorem verd_one {m : List En} (hs : m.Pairwise Ah) (hv : ∀ e ∈ m, Va e) (hM : ∀ e ∈ m, 1 ≤ (famAt fs e.fam).1) : ∀ v ∈ verdictsS fs clock m, v.rank = 1 → v.fate = 5 := fun v hv1 r1 => by
  have : v ∈ (verdictsS fs clock m).filter kept := List.mem_filter.2 ⟨hv1, by unfold kept; simpa using verd_rank m v hv1 (by omega)⟩
  rw [verdicts_spec hs hv] at this
  obtain ⟨x, hx, rfl⟩ := List.mem_map.1 (List.mem_filter.1 this).1
  have c := (counts_put hx).1 (sv_rank (fs := fs) (clock := clock) hx (by rw [r1]; decide))
  rw [sv_ver c.1 c.2.1 c.2.2.2.1 c.2.2.2.2, if_neg ((kd_put hx c.1).2 c.2.2.1)] at r1 ⊢
  have := hM x hx
  simp only at r1 ⊢
  rw [if_neg (by omega)]
theorem show_five {m : List En} (hM : ∀ e ∈ m, 1 ≤ (famAt fs e.fam).1) (hs : m.Pairwise Ah) (hv : ∀ e ∈ m, Va e) (tm n : Int) : showS tm n (verdictsS fs clock m) = showS tm n ((fiveL fs clock m).map fun e => ⟨e, 5, rankIn (fiveL fs clock m) e⟩) := by
  rw [← five_vd hs hv]
  exact (show_filter tm n _ _ (verd_one hs hv hM)).symm
theorem major_mem {m : List En} {low : Int} {z : En} : z ∈ leftL fs clock m true low ↔ z ∈ fiveL fs clock m ∨ (z ∈ m ∧ 4 ≤ z.kind ∧ shadow m z = false ∧ low < z.ts) := by
  rw [left_mem]
  constructor
  · rintro ⟨x, hx, p, rfl⟩
    by_cases k : x.kind ≤ 3
    · exact .inl (List.mem_map.2 ⟨x, List.mem_filter.2 ⟨hx, decide_eq_true (major_five k p)⟩, rfl⟩)
    · have k4 : 4 ≤ x.kind := by omega
      have sh := stays_mark k4 p
      have e : tld m x = x := by unfold tld; rw [if_pos k4]
      rw [sv_mark k4, sh] at p
      simp [staysS] at p
      rw [e]
      exact .inr ⟨hx, k4, sh, p⟩
  · rintro (h | ⟨hx, k4, sh, t⟩)
    · obtain ⟨x, hx, rfl⟩ := List.mem_map.1 h
      obtain ⟨xm, h5⟩ := List.mem_filter.1 hx
      exact ⟨x, xm, five_stays (of_decide_eq_true h5) true, rfl⟩
    · refine ⟨z, hx, ?_, by unfold tld; rw [if_pos k4]⟩
      rw [sv_mark k4, sh]
      simp [staysS, t]
theorem Red.major {m r : List En} (h : Red fs clock m r) (hs : m.Pairwise Ah) (hv : ∀ e ∈ m, Va e) (hr : r.Pairwise Ah) (low : Int) : leftL fs clock r true low = leftL fs clock m true low := by
  refine ord_unique (tld_sorted hr _) (tld_sorted hs _) fun z => ?_
  show z ∈ leftL fs clock r true low ↔ z ∈ leftL fs clock m true low
  rw [major_mem, major_mem, ← (h.wk hs hv).five hs hr z]
  have : (z ∈ r ∧ 4 ≤ z.kind ∧ shadow r z = false ∧ low < z.ts) ↔ (z ∈ m ∧ 4 ≤ z.kind ∧ shadow m z = false ∧ low < z.ts) := by
    constructor
    · rintro ⟨a, b, c, d⟩
      have am := h.marks z a b
      refine ⟨am, b, ?_, d⟩
      cases sh : shadow m z with
      | false => rfl
      | true =>
        exfalso
        obtain ⟨y, hy, cy, k⟩ := shadow_iff.1 sh
        rcases top_mark hs hv z with h0 | ⟨w, hw, cw, tw, sw⟩
        · have := maskOf_le hy cy
          have := (hv y hy).ts
          omega
        · have wr := h.top w hw (by rcases (cover_iff.1 cw).2.2 with q | ⟨q, _⟩ <;> omega) sw
          have hy1 := maskOf_le hy cy
          have cw' := cover_iff.1 cw
          have cy' := cover_iff.1 cy
          have bt : z.ts < w.ts ∨ z.ts = w.ts ∧ (z.kind < w.kind ∨ z.seq < w.seq) := by
            by_cases e1 : z.ts < w.ts
            · exact .inl e1
            · right
              have e2 : z.ts = w.ts := by omega
              have e3 : y.ts = w.ts := by omega
              refine ⟨e2, ?_⟩
              by_cases e4 : z.kind < w.kind
              · exact .inl e4
              · right
                have cyw : cover y w = true := cover_iff.2 ⟨cy'.1.trans cw'.1.symm, cy'.2.1.trans cw'.2.1.symm, by
                  rcases cw'.2.2 with q | ⟨q, q5, qq⟩
                  · rcases cy'.2.2 with p | ⟨p, p5, pq⟩
                    · exact .inl p
                    · have := (hv z am).k5
                      omega
                  · rcases cy'.2.2 with p | ⟨p, p5, pq⟩
                    · exact .inl p
                    · exact .inr ⟨p, by omega, pq.trans qq.symm⟩⟩
                have nb : ¬ (w.ts < y.ts ∨ w.ts = y.ts ∧ (w.kind < y.kind ∨ w.seq < y.seq)) := fun q => by
                  rw [shadow_iff.2 ⟨y, hy, cyw, q⟩] at sw
                  cases sw
                have wk : w.kind = 5 ∨ w.kind = 4 := by rcases cw'.2.2 with q | ⟨q, _⟩ <;> omega
                have yk : y.kind = 5 ∨ y.kind = 4 := by rcases cy'.2.2 with q | ⟨q, _⟩ <;> omega
                omega
          rw [shadow_iff.2 ⟨w, wr, cw, bt⟩] at c
          cases c
    · rintro ⟨a, b, c, d⟩
      exact ⟨h.top z a b c, b, shadow_sub h.marks c, d⟩
  rw [this]
end
end Go.Proofs.YthhkpkfpifllkaaGreat

namespace Go.Proofs.YthhkpkfpifllkaaGreat
open Go.RowKit
set_option linter.unusedVariables false

section
variable {fs : List (Int × Int)} {c d : Int}
end
end Go.Proofs.YthhkpkfpifllkaaGreat

namespace Go.Proofs.YthhkpkfpifllkaaGreat
open Go.RowKit
set_option linter.unusedVariables false

theorem maskOf_snoc (p : List En) (x e : En) : maskOf (p ++ [x]) e = if cover x e then max (maskOf p e) x.ts else maskOf p e := by
  have nn := maskOf_nn p e
  induction p with
  | nil => simp only [List.nil_append, maskOf_cons]; unfold maskOf; simp only [List.foldr_nil]; split <;> omega
  | cons y p ih =>
    rw [List.cons_append, maskOf_cons, maskOf_cons, ih (maskOf_nn p e)]
    repeat' split
    all_goals omega
def gv (x e : En) : Bool := decide (x.kind ≤ 3) && decide (x.ts = e.ts) && mates x e
theorem gv_gp {x e : En} (h3 : e.kind ≤ 3) : gv x e = gpE x e := by
  rw [Bool.eq_iff_iff, gpE_iff]
  unfold gv
  simp only [Bool.and_eq_true, decide_eq_true_eq, mates_iff]
  exact ⟨fun ⟨⟨a, b⟩, c⟩ => ⟨a, h3, c.1, c.2.1, c.2.2, b⟩, fun ⟨a, _, b, c, d, e⟩ => ⟨⟨a, e⟩, b, c, d⟩⟩
def gputs (m : List En) (e : En) : Nat := (m.filter fun x => gv x e && decide (x.kind ≠ 3)).length
theorem gputs_snoc (p : List En) (x e : En) : gputs (p ++ [x]) e = if gv x e = true ∧ x.kind ≠ 3 then gputs p e + 1 else gputs p e := by
  unfold gputs
  rw [List.filter_append, List.length_append]
  by_cases h : gv x e = true ∧ x.kind ≠ 3
  · rw [if_pos h]; simp [h.1, h.2]
  · rw [if_neg h]
    have : (gv x e && decide (x.kind ≠ 3)) = false := by
      cases g : gv x e with
      | false => rfl
      | true => simp only [Bool.true_and, decide_eq_false_iff_not]; exact fun z => h ⟨g, z⟩
    simp only [List.filter_cons, this, List.filter_nil]
    simp
theorem gputs_pos {m : List En} {e : En} (h3 : e.kind ≤ 3) : 0 < gputs m e ↔ hasPut m e = true := by
  unfold gputs
  rw [List.length_pos_iff_exists_mem, hasPut_iff]
  constructor
  · rintro ⟨x, hx⟩
    obtain ⟨a, b⟩ := List.mem_filter.1 hx
    simp only [Bool.and_eq_true, decide_eq_true_eq] at b
    exact ⟨x, a, by rw [← gv_gp h3]; exact b.1, b.2⟩
  · rintro ⟨x, hx, g, k⟩
    exact ⟨x, List.mem_filter.2 ⟨hx, by simp only [Bool.and_eq_true, decide_eq_true_eq]; exact ⟨by rw [gv_gp h3]; exact g, k⟩⟩⟩
structure Bst (p : List En) (e b : En) : Prop where
  at_ : b = e ∨ (b ∈ p ∧ gv b e = true)
  low : e.seq ≤ b.seq
  all : ∀ x ∈ p, gv x e = true → x.seq ≤ b.seq
theorem Bst.nil (e : En) : Bst [] e e := ⟨.inl rfl, Int.le_refl _, fun x hx => by cases hx⟩
theorem Bst.keep {p : List En} {e b x : En} (h : Bst p e b) (hx : gv x e = true → x.seq ≤ b.seq) : Bst (p ++ [x]) e b := by
  refine ⟨?_, h.low, fun y hy g => ?_⟩
  · rcases h.at_ with z | ⟨z, g⟩
    · exact .inl z
    · exact .inr ⟨List.mem_append_left _ z, g⟩
  · rcases List.mem_append.1 hy with q | q
    · exact h.all y q g
    · rw [List.mem_singleton] at q
      subst q
      exact hx g
theorem Bst.next {p : List En} {e b x : En} (h : Bst p e b) (g : gv x e = true) (hx : b.seq < x.seq) : Bst (p ++ [x]) e x := by
  refine ⟨.inr ⟨by simp, g⟩, by have := h.low; omega, fun y hy gy => ?_⟩
  rcases List.mem_append.1 hy with q | q
  · have := h.all y q gy; omega
  · rw [List.mem_singleton] at q
    subst q
    exact Int.le_refl _
def gkind (b : En) (n : Nat) : Int := if b.kind = 3 then (if 0 < n then 2 else 0) else b.kind
theorem Bst.dec {m : List En} {e b : En} (h : Bst m e b) (h3 : e.kind ≤ 3) (he : e ∈ m) : (b.seq == e.seq) = decidesS m e := by
  rw [Bool.eq_iff_iff, beq_iff_eq, decides_iff]
  constructor
  · intro z x hx g
    have := h.all x hx (by rw [gv_gp h3]; exact g)
    omega
  · intro z
    have hl := h.low
    rcases h.at_ with q | ⟨q, g⟩
    · rw [q]
    · have := z b q (by rw [← gv_gp h3]; exact g)
      omega
theorem Bst.mem {m : List En} {e b : En} (h : Bst m e b) (he : e ∈ m) (h3 : e.kind ≤ 3) : b ∈ m ∧ gpE b e = true := by
  rcases h.at_ with q | ⟨q, g⟩
  · subst q; exact ⟨he, gpE_self h3⟩
  · exact ⟨q, by rw [← gv_gp h3]; exact g⟩
theorem Bst.zero {m : List En} {e b : En} (h : Bst m e b) (hv : ∀ e ∈ m, Va e) (h3 : e.kind ≤ 3) (he : e ∈ m) : gkind b (gputs m e) = 0 ↔ hasPut m e = false := by
  obtain ⟨bm, g⟩ := h.mem he h3
  have k1 := (hv b bm).k1
  unfold gkind
  cases hp : hasPut m e with
  | true =>
    have := (gputs_pos h3).2 hp
    split
    · simp
    · simp; omega
  | false =>
    have n0 : ¬ 0 < gputs m e := fun z => by rw [(gputs_pos h3).1 z] at hp; cases hp
    have b3 : b.kind = 3 := by
      by_cases z : b.kind = 3
      · exact z
      · rw [hasPut_iff.2 ⟨b, bm, g, z⟩] at hp; cases hp
    simp [b3, n0]
theorem Bst.kind {m : List En} {e b : En} (h : Bst m e b) (hn : m.Pairwise fun a b => a.seq ≠ b.seq) (hv : ∀ e ∈ m, Va e) (h3 : e.kind ≤ 3) (he : e ∈ m) (hd : decidesS m e = true) (hp : hasPut m e = true) (pe : ∀ {x y : En}, x ∈ m → y ∈ m → x.seq = y.seq → x = y) : gkind b (gputs m e) = (hk e).kind := by
  have hs : b.seq = e.seq := by have := h.dec h3 he; rw [hd] at this; simpa using this
  obtain ⟨bm, g⟩ := h.mem he h3
  have e1 := pe bm he hs
  subst e1
  have n0 := (gputs_pos h3).2 hp
  unfold gkind hk
  by_cases z : b.kind = 3
  · simp [z, n0]
  · simp [z]
section
variable {fs : List (Int × Int)} {clock : Int}
def ranks (fs : List (Int × Int)) (clock : Int) (m : List En) (e x : En) : Bool := decide (x.kind ≤ 3) && decide (e.ts < x.ts) && mates x e && hasPut m x && decidesS m x && (decide (maskOf m x < x.ts) && !expS fs clock x)
theorem ranks_above {m : List En} {e : En} : ((m.filter (ranks fs clock m e)).length : Int) = above fs clock m e := by
  unfold above
  congr 2
  apply List.filter_congr
  intro x hx
  rw [Bool.eq_iff_iff]
  unfold ranks
  simp only [Bool.and_eq_true, decide_eq_true_eq, Bool.not_eq_true', counts_put hx]
  constructor
  · rintro ⟨⟨⟨⟨⟨a, b⟩, c⟩, d⟩, f⟩, g, h⟩
    exact ⟨⟨⟨a, f, d, g, h⟩, c⟩, b⟩
  · rintro ⟨⟨⟨a, f, d, g, h⟩, c⟩, b⟩
    exact ⟨⟨⟨⟨⟨a, b⟩, c⟩, d⟩, f⟩, g, h⟩
def visB (fs : List (Int × Int)) (clock : Int) (m : List En) (x : En) : Bool := decide (x.kind = 1) && (decidesS m x && (decide (maskOf m x < x.ts) && !expS fs clock x) && decide (above fs clock m x + 1 ≤ (famAt fs x.fam).1))
theorem visB_five {m : List En} {x : En} (hx : x ∈ m) : visB fs clock m x = (decide (x.kind = 1) && decide ((sv fs clock m x).fate = 5)) := by
  rw [Bool.eq_iff_iff]
  unfold visB
  simp only [Bool.and_eq_true, decide_eq_true_eq, Bool.not_eq_true', five_iff hx]
  constructor
  · rintro ⟨k, ⟨d, a, b⟩, r⟩
    exact ⟨k, by omega, d, hasPut_iff.2 ⟨x, hx, gpE_self (by omega), by omega⟩, a, b, r⟩
  · rintro ⟨k, _, d, _, a, b, r⟩
    exact ⟨k, ⟨d, a, b⟩, r⟩
theorem five_put {m : List En} {x : En} (hx : x ∈ m) (h : (sv fs clock m x).fate = 5) : (tld m x).kind = 1 ↔ x.kind = 1 := by
  obtain ⟨h3, hd, hp, _⟩ := (five_iff hx).1 h
  rw [tld_hk h3 hd hp]
  have := (hk_eq x).2.2.2.2.2.2
  omega
theorem vis_five (m : List En) : m.filter (visB fs clock m) = (fiveL fs clock m).filter (fun e => decide (e.kind = 1)) := by
  unfold fiveL
  rw [List.filter_map, List.filter_filter]
  have e1 : m.filter (visB fs clock m) = m.filter fun x => ((fun e => decide (e.kind = 1)) ∘ tld m) x && decide ((sv fs clock m x).fate = 5) := by
    apply List.filter_congr
    intro x hx
    rw [visB_five hx]
    cases h : decide ((sv fs clock m x).fate = 5) with
    | false => simp
    | true =>
      have := five_put hx (of_decide_eq_true h)
      simp only [Bool.and_true, Function.comp]
      rw [Bool.eq_iff_iff, decide_eq_true_eq, decide_eq_true_eq]
      exact this.symm
  rw [e1]
  have e2 : ∀ x ∈ m.filter (fun x => ((fun e => decide (e.kind = 1)) ∘ tld m) x && decide ((sv fs clock m x).fate = 5)), tld m x = x := fun x hx => by
    obtain ⟨xm, hx⟩ := List.mem_filter.1 hx
    simp only [Bool.and_eq_true, decide_eq_true_eq, Function.comp] at hx
    obtain ⟨h3, hd, hp, _⟩ := (five_iff xm).1 hx.2
    have k := (five_put xm hx.2).1 hx.1
    rw [tld_hk h3 hd hp]
    unfold hk
    rw [if_neg (by omega)]
  conv => lhs; rw [← List.map_id (m.filter _)]
  exact List.map_congr_left (fun x hx => (e2 x hx).symm)
theorem mates_same {l e : En} (h : mates l e = true) (y : En) : mates y l = mates y e := by
  have a := mates_iff.1 h
  simp only [mates, a.1, a.2.1, a.2.2]
theorem five_dist {m : List En} (hs : m.Pairwise Ah) : ∀ x ∈ fiveL fs clock m, ∀ y ∈ fiveL fs clock m, mates x y = true → x.ts = y.ts → x = y := fun x hx y hy M t => by
  obtain ⟨a, am, ha, rfl⟩ := five_mem.1 hx
  obtain ⟨b, bm, hb, rfl⟩ := five_mem.1 hy
  obtain ⟨a1, a2, a3, a4, _⟩ := hk_eq a
  obtain ⟨b1, b2, b3, b4, _⟩ := hk_eq b
  have M := mates_iff.1 M
  have := one_decides hs am bm (gpE_iff.2 ⟨ha.1, hb.1, by rw [← a1, M.1, b1], by rw [← a2, M.2.1, b2], by rw [← a3, M.2.2, b3], by rw [← a4, t, b4]⟩) ha.2.1 hb.2.1
  rw [this]
theorem five_three {m : List En} : ∀ x ∈ fiveL fs clock m, x.kind ≤ 3 := fun x hx => by
  obtain ⟨a, am, ha, rfl⟩ := five_mem.1 hx
  have := (hk_eq a).2.2.2.2.2.2
  have := ha.1
  omega
def topR (fs : List (Int × Int)) (clock : Int) (m p : List En) : Int := p.foldl (fun t x => if (x.kind ≤ 3 ∧ hasPut m x = true ∧ maskOf m x < x.ts ∧ expS fs clock x = false) ∧ t < x.ts then x.ts else t) 0
def fateR (fs : List (Int × Int)) (clock : Int) (major : Bool) (low : Int) (m : List En) (e : En) : Option En :=
  if 4 ≤ e.kind then (if shadow m e || (major && decide (e.ts ≤ low)) then none else some e)
  else if decidesS m e = false then none
  else if e.ts ≤ maskOf m e then none
  else if expS fs clock e then none
  else if hasPut m e = false then (if major then none else some e)
  else if (famAt fs e.fam).1 < above fs clock m e + 1 then none
  else some (hk e)
end
end Go.Proofs.YthhkpkfpifllkaaGreat

namespace Go.Proofs.YthhkpkfpifllkaaGreat
open Go.RowKit
set_option linter.unusedVariables false

section
variable {fs : List (Int × Int)} {clock : Int}
def readR (t n : Int) (v : List En) : List En := v.foldl (fun r e => if e.ts ≤ t ∧ ((r.filter fun y => mates y e).length : Int) < n then r ++ [e] else r) []
theorem readR_snoc (t n : Int) (v : List En) (e : En) : readR t n (v ++ [e]) = if e.ts ≤ t ∧ (((readR t n v).filter fun y => mates y e).length : Int) < n then readR t n v ++ [e] else readR t n v := by
  unfold readR
  rw [List.foldl_append]
  rfl
theorem readR_sub (t n : Int) (v : List En) (e : En) (h : e ∈ readR t n v) : e ∈ v := by
  have key : ∀ (v r : List En), e ∈ v.foldl (fun r e => if e.ts ≤ t ∧ ((r.filter fun y => mates y e).length : Int) < n then r ++ [e] else r) r → e ∈ r ∨ e ∈ v := by
    intro v
    induction v with
    | nil => intro r h; exact .inl h
    | cons x v ih =>
      intro r h
      rw [List.foldl_cons] at h
      rcases ih _ h with q | q
      · split at q
        · rcases List.mem_append.1 q with q | q
          · exact .inl q
          · rw [List.mem_singleton] at q
            exact .inr (by rw [q]; exact List.mem_cons_self)
        · exact .inl q
      · exact .inr (List.mem_cons_of_mem _ q)
  rcases key v [] h with q | q
  · cases q
  · exact q
structure RI (t n : Int) (E P : List En) : Prop where
  out : (showS t n (P.map fun e => ⟨e, 5, rankIn E e⟩)).2 = readR t n (P.filter fun e => decide (e.kind = 1))
  cnt : ∀ l, P.getLast? = some l → (showS t n (P.map fun e => ⟨e, 5, rankIn E e⟩)).1 = (((showS t n (P.map fun e => ⟨e, 5, rankIn E e⟩)).2.filter fun y => mates y l).length : Int)
  le : (showS t n (P.map fun e => ⟨e, 5, rankIn E e⟩)).1 ≤ n
theorem RI.step {t n : Int} {E P Q : List En} {e : En} (hE : E = P ++ e :: Q) (hs : E.Pairwise Ah) (h3 : ∀ x ∈ E, x.kind ≤ 3) (hD : ∀ x ∈ E, ∀ y ∈ E, mates x y = true → x.ts = y.ts → x = y) (hn : 0 ≤ n) (h : RI t n E P) : RI t n E (P ++ [e]) := by
  have hp := List.pairwise_append.1 (hE ▸ hs)
  have hq := List.pairwise_cons.1 hp.2.1
  have eE : e ∈ E := by rw [hE]; simp
  have pE : ∀ y ∈ P, y ∈ E := fun y hy => by rw [hE]; exact List.mem_append_left _ hy
  have above : ∀ y ∈ P, mates y e = true → e.ts < y.ts := fun y hy M => by
    have a := hp.2.2 y hy e List.mem_cons_self
    have m := mates_iff.1 M
    have k1 := h3 y (pE y hy)
    have k2 := h3 e eE
    have t1 := a.ts m.1 m.2.1 (by omega) m.2.2 (by omega)
    have : y.ts ≠ e.ts := fun z => by
      have := hD y (pE y hy) e eE M z
      subst this
      exact ah_irrefl a
    omega
  obtain ⟨S, hS⟩ : ∃ S, S = showS t n (P.map fun e => (⟨e, 5, rankIn E e⟩ : Vd)) := ⟨_, rfl⟩
  have sub : ∀ y ∈ S.2, y ∈ P := fun y hy => by
    rw [hS, h.out] at hy
    exact (List.mem_filter.1 (readR_sub t n _ y hy)).1
  obtain ⟨c, hc⟩ : ∃ c : Int, c = if rankIn E e = 1 then 0 else S.1 := ⟨_, rfl⟩
  have hcc : c = ((S.2.filter fun y => mates y e).length : Int) := by
    by_cases hno : ∃ y ∈ P, mates y e = true
    · obtain ⟨y, hy, M⟩ := hno
      have hr : rankIn E e ≠ 1 := fun z => by
        unfold rankIn at z
        have : y ∈ E.filter fun y => mates y e && decide (e.ts < y.ts) := List.mem_filter.2 ⟨pE y hy, by simp [M, above y hy M]⟩
        have := List.length_pos_of_mem this
        omega
      rw [hc, if_neg hr]
      cases hl : P.getLast? with
      | none => rw [List.getLast?_eq_none_iff] at hl; rw [hl] at hy; cases hy
      | some l =>
        obtain ⟨P', hP⟩ := List.getLast?_eq_some_iff.1 hl
        have lP : l ∈ P := by rw [hP]; simp
        have al := hp.2.2 l lP e List.mem_cons_self
        have yl : y = l ∨ Ah y l := by
          rw [hP] at hy
          rcases List.mem_append.1 hy with q | q
          · have := (List.pairwise_append.1 (hP ▸ hp.1)).2.2 y q l (by simp)
            exact .inr this
          · rw [List.mem_singleton] at q; exact .inl q
        have m := mates_iff.1 M
        have f := Ah.midF yl al m.1 m.2.1
        have k1 := h3 y (pE y hy)
        have q := Ah.midC yl al m.1 m.2.1 (by omega) m.2.2
        have ml : mates l e = true := mates_iff.2 ⟨f.1, f.2, q.2.1⟩
        rw [hS, h.cnt l hl, ← hS]
        congr 2
        apply List.filter_congr
        intro z _
        exact mates_same ml z
    · have no : ∀ y ∈ P, mates y e = false := fun y hy => by
        cases z : mates y e with
        | false => rfl
        | true => exact absurd ⟨y, hy, z⟩ hno
      have hr : rankIn E e = 1 := by
        unfold rankIn
        have : (E.filter fun y => mates y e && decide (e.ts < y.ts)) = [] := List.filter_eq_nil_iff.2 fun y hy hyy => by
          simp only [Bool.and_eq_true, decide_eq_true_eq] at hyy
          rw [hE] at hy
          rcases List.mem_append.1 hy with q | q
          · rw [no y q] at hyy; exact absurd hyy.1 (by simp)
          · rcases List.mem_cons.1 q with rfl | q
            · omega
            · have a := hq.1 y q
              have m := mates_iff.1 hyy.1
              have k1 := h3 y (by rw [hE]; exact List.mem_append_right _ (List.mem_cons_of_mem _ q))
              have k2 := h3 e eE
              have := a.ts m.1.symm m.2.1.symm (by omega) m.2.2.symm (by omega)
              omega
        rw [this]; rfl
      rw [hc, if_pos hr]
      have : (S.2.filter fun y => mates y e) = [] := List.filter_eq_nil_iff.2 fun y hy => by rw [no y (sub y hy)]; simp
      rw [this]; rfl
  have hcn : c ≤ n := by
    rw [hc]
    split
    · exact hn
    · rw [hS]; exact h.le
  have c0 : 0 ≤ c := by rw [hcc]; omega
  have es : showS t n ((P ++ [e]).map fun e => (⟨e, 5, rankIn E e⟩ : Vd)) = if e.kind = 1 ∧ e.ts ≤ t ∧ c < n then (c + 1, S.2 ++ [e]) else (c, S.2) := by
    rw [List.map_append, List.map_singleton, showS_snoc, ← hS]
    unfold showStep
    simp only
    rw [← hc]
    by_cases z : e.kind = 1 ∧ e.ts ≤ t ∧ c < n
    · rw [if_pos z, if_pos ⟨by trivial, z.1, z.2.1, by omega⟩]
    · rw [if_neg z, if_neg (fun y => z ⟨y.2.1, y.2.2.1, by omega⟩)]
  have er : readR t n ((P ++ [e]).filter fun e => decide (e.kind = 1)) = if e.kind = 1 ∧ e.ts ≤ t ∧ c < n then S.2 ++ [e] else S.2 := by
    rw [List.filter_append]
    by_cases k : e.kind = 1
    · rw [show ([e].filter fun e => decide (e.kind = 1)) = [e] by simp [k], readR_snoc, ← h.out, ← hS, ← hcc]
      by_cases z : e.ts ≤ t ∧ c < n
      · rw [if_pos z, if_pos ⟨k, z⟩]
      · rw [if_neg z, if_neg (fun y => z y.2)]
    · rw [show ([e].filter fun e => decide (e.kind = 1)) = [] by simp [k], List.append_nil, ← h.out, ← hS, if_neg (fun y => k y.1)]
  refine ⟨?_, fun l hl => ?_, ?_⟩
  · rw [es, er]
    split <;> rfl
  · have : l = e := by simpa using hl.symm
    subst this
    rw [es]
    split
    · simp only [List.filter_append, List.length_append]
      have : mates l l = true := mates_iff.2 ⟨rfl, rfl, rfl⟩
      simp [this, hcc]
    · exact hcc
  · rw [es]
    split
    · rename_i z; simp only; omega
    · exact hcn
theorem RI.all {t n : Int} {E : List En} (hs : E.Pairwise Ah) (h3 : ∀ x ∈ E, x.kind ≤ 3) (hD : ∀ x ∈ E, ∀ y ∈ E, mates x y = true → x.ts = y.ts → x = y) (hn : 0 ≤ n) : ∀ (Q P : List En), E = P ++ Q → RI t n E P → RI t n E E
  | [], P, e, h => by rw [List.append_nil] at e; rw [e] at h ⊢; exact h
  | x :: Q, P, e, h => RI.all hs h3 hD hn Q (P ++ [x]) (by rw [e, List.append_assoc]; rfl) (h.step e hs h3 hD hn)
theorem read_five {t n : Int} {E : List En} (hs : E.Pairwise Ah) (h3 : ∀ x ∈ E, x.kind ≤ 3) (hD : ∀ x ∈ E, ∀ y ∈ E, mates x y = true → x.ts = y.ts → x = y) (hn : 0 ≤ n) : (showS t n (E.map fun e => ⟨e, 5, rankIn E e⟩)).2 = readR t n (E.filter fun e => decide (e.kind = 1)) :=
  (RI.all hs h3 hD hn E [] rfl ⟨rfl, (fun l hl => by cases hl), hn⟩).out
theorem read_ref {m : List En} (hM : ∀ e ∈ m, 1 ≤ (famAt fs e.fam).1) (hs : m.Pairwise Ah) (hv : ∀ e ∈ m, Va e) {t n : Int} (hn : 0 ≤ n) : (showS t n (verdictsS fs clock m)).2 = readR t n (m.filter (visB fs clock m)) := by
  rw [show_five hM hs hv, read_five (five_sorted hs) five_three (five_dist hs) hn, vis_five]
end
end Go.Proofs.YthhkpkfpifllkaaGreat

namespace Go.Proofs.YthhkpkfpifllkaaGreat
open Go.RowKit
set_option linter.unusedVariables false

def ovr (x e : En) : Bool := (decide (x.kind = 5) && decide (x.fam = e.fam) && decide (x.row = e.row)) || (decide (x.kind = e.kind) && mates x e)
def upT (x e : En) : Bool := decide (e.ts < x.ts) || (decide (x.ts = e.ts) && (decide (e.kind < x.kind) || decide (e.seq < x.seq)))
end Go.Proofs.YthhkpkfpifllkaaGreat

namespace Go.Proofs.YthhkpkfpifllkaaGreat
open Go.RowKit
set_option linter.unusedVariables false

section
variable {fs : List (Int × Int)} {clock : Int}
def fateN (fs : List (Int × Int)) (clock : Int) (major : Bool) (low : Int) (m : List En) (e : En) : Int :=
  if 4 ≤ e.kind then (if shadow m e || (major && decide (e.ts ≤ low)) then 5 else 0)
  else if decidesS m e = false then 1
  else if e.ts ≤ maskOf m e then 2
  else if expS fs clock e then 3
  else if hasPut m e = false then (if major then 5 else 0)
  else if (famAt fs e.fam).1 < above fs clock m e + 1 then 4
  else 0
def fateE (m : List En) (e : En) : En := if 4 ≤ e.kind then e else if hasPut m e = false then e else hk e
end
end Go.Proofs.YthhkpkfpifllkaaGreat

namespace Go.Proofs.YthhkpkfpifllkaaGreat
open Go.RowKit
set_option linter.unusedVariables false

inductive Pushed (fs : List (Int × Int)) (clock : Int) (k : Nat) : List EntD → List EntD → Sp → List Vd → Prop
  | nil : Pushed fs clock k [] [] Sp.zero []
  | twin {l m : List EntD} {s : Sp} {vs : List Vd} {e y : EntD} (h : Pushed fs clock k l m s vs) (hy : m.getLast? = some y) (he : y.dat = e.dat) : Pushed fs clock k (l ++ [e]) m s (vs ++ [⟨e.dat, 1, 0⟩])
  | step {l m : List EntD} {s : Sp} {vs : List Vd} {e : EntD} (h : Pushed fs clock k l m s vs) (ho : ∀ y ∈ m, compareS y e ≤ 0 ∧ y.seq ≠ e.seq) (hc : check3S k e = 0) : Pushed fs clock k (l ++ [e]) (m ++ [e]) (stepS fs clock s e.dat).2 (vs ++ (stepS fs clock s e.dat).1)
section
variable {fs : List (Int × Int)} {clock : Int} {k : Nat} {l m : List EntD} {s : Sp} {vs : List Vd}
theorem Pushed.state (h : Pushed fs clock k l m s vs) : s = (walkS fs clock Sp.zero (m.map EntD.dat)).2 ∧ vs.filter kept = (walkS fs clock Sp.zero (m.map EntD.dat)).1.filter kept ∧ vs.length + m.length = (walkS fs clock Sp.zero (m.map EntD.dat)).1.length + l.length := by
  induction h with
  | nil => exact ⟨rfl, rfl, rfl⟩
  | twin h hy he ih =>
    refine ⟨ih.1, ?_, ?_⟩
    · rw [List.filter_append, ih.2.1]
      simp [kept]
    · have := ih.2.2
      simp only [List.length_append, List.length_cons, List.length_nil]
      omega
  | @step l m s vs e h ho hc ih =>
    have e1 := walk_snoc (fs := fs) (clock := clock) Sp.zero (m.map EntD.dat) e.dat
    rw [List.map_append, List.map_cons, List.map_nil, e1, ← ih.1]
    refine ⟨rfl, ?_, ?_⟩
    · rw [List.filter_append, List.filter_append, ih.2.1]
    · have := ih.2.2
      simp only [List.length_append, List.length_cons, List.length_nil]
      omega
theorem Pushed.ord (h : Pushed fs clock k l m s vs) : (m.Pairwise fun x y => compareS x y ≤ 0) ∧ (m.Pairwise fun x y => x.seq ≠ y.seq) ∧ (∀ x ∈ m, check3S k x = 0 ∧ x ∈ l) ∧ ∀ d, d ∈ m.map EntD.dat ↔ d ∈ l.map EntD.dat := by
  induction h with
  | nil => exact ⟨.nil, .nil, by simp, fun d => Iff.rfl⟩
  | twin h hy he ih =>
    refine ⟨ih.1, ih.2.1, fun x hx => ⟨(ih.2.2.1 x hx).1, List.mem_append_left _ (ih.2.2.1 x hx).2⟩, fun d => ?_⟩
    rw [List.map_append, List.mem_append, ih.2.2.2 d]
    refine ⟨fun q => .inl q, fun q => q.elim id (fun q => ?_)⟩
    rw [List.map_cons, List.map_nil, List.mem_singleton] at q
    rw [← ih.2.2.2 d, q, ← he]
    exact List.mem_map_of_mem (List.mem_of_getLast? hy)
  | step h ho hc ih =>
    refine ⟨List.pairwise_append.2 ⟨ih.1, List.pairwise_singleton _ _, fun x hx y hy => ?_⟩, List.pairwise_append.2 ⟨ih.2.1, List.pairwise_singleton _ _, fun x hx y hy => ?_⟩, fun x hx => ?_, fun d => ?_⟩
    · rw [List.mem_singleton] at hy
      rw [hy]; exact (ho x hx).1
    · rw [List.mem_singleton] at hy
      rw [hy]; exact (ho x hx).2
    · rcases List.mem_append.1 hx with q | q
      · exact ⟨(ih.2.2.1 x q).1, List.mem_append_left _ (ih.2.2.1 x q).2⟩
      · rw [List.mem_singleton] at q
        rw [q]; exact ⟨hc, List.mem_append_right _ List.mem_cons_self⟩
    · rw [List.map_append, List.map_append, List.mem_append, List.mem_append, ih.2.2.2 d]
theorem Pushed.isOrd (h : Pushed fs clock k l m s vs) : IsOrd k (l.map EntD.dat) (m.map EntD.dat) := by
  obtain ⟨h1, h2, h3, h4⟩ := h.ord
  refine ⟨?_, ?_, fun e he => ?_, fun e he => ?_, h4⟩
  · rw [List.pairwise_map]
    exact (h1.and h2).imp fun h => ah_of h.1 h.2
  · rw [List.pairwise_map]; exact h2
  · obtain ⟨y, hy, rfl⟩ := List.mem_map.1 he
    exact va_of_check (h3 y hy).1
  · obtain ⟨y, hy, rfl⟩ := List.mem_map.1 he
    exact (h3 y hy).1
theorem out_kept (major : Bool) (low : Int) (us : List Vd) : outS major low us = outS major low (us.filter kept) := by
  unfold outS
  rw [List.filter_filter]
  congr 1
  refine List.filter_congr fun v _ => ?_
  unfold staysS kept
  by_cases h : v.fate = 1
  · simp [h]
  · simp [h]
theorem out_append (major : Bool) (low : Int) (us ws : List Vd) : outS major low (us ++ ws) = outS major low us ++ outS major low ws := by
  unfold outS
  rw [List.filter_append, List.map_append]
theorem Pushed.out (h : Pushed fs clock k l m s vs) (major : Bool) (low : Int) : outS major low vs = outS major low (walkS fs clock Sp.zero (m.map EntD.dat)).1 ∧ outS major low (vs ++ (resolveS fs clock s 3).1) = outS major low (verdictsS fs clock (m.map EntD.dat)) := by
  obtain ⟨h1, h2, h3⟩ := h.state
  have q : outS major low vs = outS major low (walkS fs clock Sp.zero (m.map EntD.dat)).1 := by rw [out_kept, h2, ← out_kept]
  refine ⟨q, ?_⟩
  rw [out_append, q, h1, ← out_append]
  rfl
def fCnt (us : List Vd) (p : Vd → Bool) : Int := ((us.filter p).length : Nat)
end
end Go.Proofs.YthhkpkfpifllkaaGreat

namespace Go.Proofs.YthhkpkfpifllkaaGreat
open Go.RowKit
set_option linter.unusedVariables false

section
variable {fs : List (Int × Int)} {clock : Int}
def whyV (major : Bool) (low : Int) (v : Vd) : Int := if staysS major low v then 0 else if v.fate = 1 then 1 else if v.fate = 2 then 2 else if v.fate = 3 then 3 else if v.fate = 4 then 4 else 5
def refCt (fs : List (Int × Int)) (clock : Int) (major : Bool) (low : Int) (n : Nat) (m : List En) : Ct :=
  ⟨((n : Int) - m.length) + ((m.filter fun e => decide (fateN fs clock major low m e = 1)).length : Nat), ((m.filter fun e => decide (fateN fs clock major low m e = 2)).length : Nat), ((m.filter fun e => decide (fateN fs clock major low m e = 3)).length : Nat), ((m.filter fun e => decide (fateN fs clock major low m e = 4)).length : Nat), ((m.filter fun e => decide (fateN fs clock major low m e = 5)).length : Nat)⟩
def refCtP (fs : List (Int × Int)) (clock : Int) (major : Bool) (low : Int) (n : Nat) (m p : List En) : Ct :=
  ⟨((n : Int) - m.length) + ((p.filter fun e => decide (fateN fs clock major low m e = 1)).length : Nat), ((p.filter fun e => decide (fateN fs clock major low m e = 2)).length : Nat), ((p.filter fun e => decide (fateN fs clock major low m e = 3)).length : Nat), ((p.filter fun e => decide (fateN fs clock major low m e = 4)).length : Nat), ((p.filter fun e => decide (fateN fs clock major low m e = 5)).length : Nat)⟩
def Ct.incN (c : Ct) (k : Int) : Ct := if k = 1 then { c with o := c.o + 1 } else if k = 2 then { c with m := c.m + 1 } else if k = 3 then { c with x := c.x + 1 } else if k = 4 then { c with a := c.a + 1 } else if k = 5 then { c with k := c.k + 1 } else c
end
end Go.Proofs.YthhkpkfpifllkaaGreat

namespace Go.Proofs.YthhkpkfpifllkaaGreat
open Go.RowKit
set_option linter.unusedVariables false

section
variable {fs : List (Int × Int)} {clock : Int}
def Gd : Bool → List Vd → Prop
  | true, _ => True
  | false, [] => True
  | false, v :: us => (v.rank = 1 ∧ Gd true us) ∨ (v.fate ≠ 5 ∧ v.rank ≠ 1 ∧ Gd false us)
theorem show_carry (tm n : Int) (us : List Vd) : ∀ (s0 : Int) (out : List En), Gd false us → (us.foldl (showStep tm n) (s0, out)).2 = out ++ (us.foldl (showStep tm n) (0, [])).2 := by
  have same : ∀ (us : List Vd) (s : Int) (out : List En), us.foldl (showStep tm n) (s, out) = ((us.foldl (showStep tm n) (s, [])).1, out ++ (us.foldl (showStep tm n) (s, [])).2) := by
    intro us
    induction us with
    | nil => intro s out; simp
    | cons v us ih =>
      intro s out
      simp only [List.foldl_cons]
      unfold showStep
      by_cases h : v.fate = 5 ∧ v.e.kind = 1 ∧ v.e.ts ≤ tm ∧ (if v.rank = 1 then 0 else s) ≠ n
      · simp only [if_pos h]
        have a := ih ((if v.rank = 1 then 0 else s) + 1) (out ++ [v.e])
        have b := ih ((if v.rank = 1 then 0 else s) + 1) ([] ++ [v.e])
        unfold showStep at a b
        rw [a, b]
        simp
      · simp only [if_neg h]
        have a := ih (if v.rank = 1 then 0 else s) out
        unfold showStep at a
        rw [a]
  induction us with
  | nil => intro s0 out _; simp
  | cons v us ih =>
    intro s0 out hg
    rcases hg with ⟨h1, -⟩ | ⟨h5, h1, hg⟩
    · have e : showStep tm n (s0, out) v = ((showStep tm n (0, []) v).1, out ++ (showStep tm n (0, []) v).2) := by
        unfold showStep
        simp only [if_pos h1]
        split <;> simp
      simp only [List.foldl_cons]
      rw [e, same us _ (out ++ _), same us _ (showStep tm n (0, []) v).2]
      simp
    · have e : ∀ s out, showStep tm n (s, out) v = (s, out) := fun s out => by
        unfold showStep
        simp [h5, h1]
      simp only [List.foldl_cons]
      rw [e, e]
      exact ih s0 out hg
theorem show_append (tm n : Int) (us ws : List Vd) (h : Gd false ws) : (showS tm n (us ++ ws)).2 = (showS tm n us).2 ++ (showS tm n ws).2 := by
  unfold showS
  rw [List.foldl_append]
  exact show_carry tm n ws _ _ h
def Qr (V : List Vd) (s : Sp) : Prop := Gd false V ∧ ((∃ v ∈ V, v.rank = 1) ∨ s.rank = 0)
theorem gd_append {us ws : List Vd} (h : Gd false us) (k : (∃ v ∈ us, v.rank = 1) ∨ Gd false ws) : Gd false (us ++ ws) := by
  induction us with
  | nil =>
    rcases k with ⟨v, hv, -⟩ | k
    · cases hv
    · exact k
  | cons v us ih =>
    rcases h with ⟨h1, -⟩ | ⟨h5, h1, hg⟩
    · exact .inl ⟨h1, by simp [Gd]⟩
    · refine .inr ⟨h5, h1, ih hg ?_⟩
      rcases k with ⟨y, hy, e⟩ | k
      · rcases List.mem_cons.1 hy with z | z
        · rw [z] at e; exact absurd e h1
        · exact .inl ⟨y, z, e⟩
      · exact .inr k
theorem Qr.app {V1 V2 : List Vd} {s1 s2 : Sp} (h : Qr V1 s1) (k : s1.rank = 0 → Qr V2 s2) : Qr (V1 ++ V2) s2 := by
  rcases h.2 with ⟨v, hv, e⟩ | z
  · exact ⟨gd_append h.1 (.inl ⟨v, hv, e⟩), .inl ⟨v, List.mem_append_left _ hv, e⟩⟩
  · have q := k z
    refine ⟨gd_append h.1 (.inr q.1), ?_⟩
    rcases q.2 with ⟨v, hv, e⟩ | y
    · exact .inl ⟨v, List.mem_append_right _ hv, e⟩
    · exact .inr y
theorem Qr.same {V : List Vd} {s s' : Sp} (h : Qr V s) (e : s.rank = 0 → s'.rank = 0) : Qr V s' := ⟨h.1, h.2.imp id e⟩
theorem qr_nil {s : Sp} (h : s.rank = 0) : Qr [] s := ⟨by simp [Gd], .inr h⟩
theorem qr_decide {s : Sp} (h : s.rank = 0) (e : En) : Qr [(decideS fs clock s e).1] (decideS fs clock s e).2 := by
  unfold decideS
  by_cases h1 : e.ts ≤ s.mask
  · simp [if_pos h1, Qr, Gd, h]
  · by_cases h2 : 0 < (famAt fs e.fam).2 ∧ e.ts + (famAt fs e.fam).2 ≤ clock
    · simp [if_neg h1, if_pos h2, Qr, Gd, h]
    · by_cases h3 : e.kind = 3
      · simp [if_neg h1, if_neg h2, if_pos h3, Qr, Gd, h]
      · simp [if_neg h1, if_neg h2, if_neg h3, Qr, Gd, h]
theorem qr_resolve {s : Sp} (h : s.rank = 0) (k : Int) : Qr (resolveS fs clock s k).1 (resolveS fs clock s k).2 := by
  unfold resolveS
  split
  · exact qr_decide (s := { s with waiting := false }) h _
  · exact qr_nil h
theorem left_rank0 (s : Sp) (f c : Bool) (h : s.rank = 0) : (leftS s f c).rank = 0 := by
  unfold leftS
  cases f <;> cases c <;> simp [h]
theorem qr_enter {s : Sp} (h : s.rank = 0) (e : En) : Qr (enterS fs clock s e).1 (enterS fs clock s e).2 := by
  unfold enterS
  split
  · exact qr_nil h
  · exact (qr_resolve h 3).same (left_rank0 _ _ _)
theorem qr_stretch {s : Sp} (h : s.rank = 0) (e : En) : Qr [(stretchS s e).1] (stretchS s e).2 := by
  unfold stretchS
  split <;> simp [Qr, Gd, h]
theorem qr_step {s : Sp} (h : s.rank = 0) (e : En) : Qr (stepS fs clock s e).1 (stepS fs clock s e).2 := by
  have q := qr_enter (fs := fs) (clock := clock) h e
  have one : ∀ {s : Sp}, s.rank = 0 → Qr [⟨e, 1, 0⟩] s := fun h => by simp [Qr, Gd, h]
  unfold stepS
  split
  · exact (q.app (fun z => qr_stretch z e)).same (fun z => z)
  · split
    · split
      · exact (q.app (fun z => (qr_resolve z 2).app (fun y => one y))).same (fun z => z)
      · exact (q.app (fun z => one z)).same (fun z => z)
    · split
      · exact q.same (fun z => z)
      · exact (q.app (fun z => qr_decide z e)).same (fun z => z)
theorem Pushed.qr {k : Nat} {l m : List EntD} {s : Sp} {vs : List Vd} (h : Pushed fs clock k l m s vs) : Qr vs s := by
  induction h with
  | nil => exact qr_nil rfl
  | twin h hy he ih => exact ih.app (fun z => by simp [Qr, Gd, z])
  | step h ho hc ih => exact ih.app (fun z => qr_step z _)
theorem Pushed.gd {k : Nat} {l m : List EntD} {s : Sp} {vs : List Vd} (h : Pushed fs clock k l m s vs) : Gd false vs ∧ Gd false (vs ++ (resolveS fs clock s 3).1) := ⟨h.qr.1, (h.qr.app (fun z => qr_resolve z 3)).1⟩
end
end Go.Proofs.YthhkpkfpifllkaaGreat
