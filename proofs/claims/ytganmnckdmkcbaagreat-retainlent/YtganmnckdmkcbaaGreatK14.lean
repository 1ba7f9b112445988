import Derived.Test.YtganmnckdmkcbaaGreatK13
import Derived.Shelf.SlSortCmp.NoneTotal
namespace Go.Proofs.YtganmnckdmkcbaaGreat
open Go.RowKit
set_option linter.unusedVariables false

theorem stays_kept {major : Bool} {low : Int} {v : Vd} (h : staysS major low v = true) : kept v = true := by
  unfold staysS at h
  unfold kept
  by_cases h5 : v.fate = 5
  · simp [h5]
  · by_cases h6 : v.fate = 6
    · simp [h6]
    · by_cases h7 : v.fate = 7
      · simp [h7]
      · simp [h5, h6, h7] at h
theorem filter_stays (major : Bool) (low : Int) (vs : List Vd) : vs.filter (staysS major low) = (vs.filter kept).filter (staysS major low) := by
  rw [List.filter_filter]
  apply List.filter_congr
  intro v _
  cases h : staysS major low v with
  | false => rfl
  | true => rw [stays_kept h]; rfl
section
variable {fs : List (Int × Int)} {clock : Int}
theorem out_spec {m : List En} (hs : m.Pairwise Ah) (hv : ∀ e ∈ m, Va e) (major : Bool) (low : Int) : outS major low (verdictsS fs clock m) = ((m.filter fun x => staysS major low (sv fs clock m x)).map (sv fs clock m)).map Vd.e := by
  unfold outS
  rw [filter_stays, verdicts_spec hs hv, ← filter_stays, List.filter_map]
  rfl
theorem decideS_e (σ : Sp) (e : En) : (decideS fs clock σ e).1.e = e := by
  unfold decideS
  repeat' split
  all_goals rfl
def tld (m : List En) (x : En) : En := if 4 ≤ x.kind then x else if decidesS m x then { x with kind := kd m x } else x
theorem sv_e (m : List En) (x : En) : (sv fs clock m x).e = tld m x := by
  unfold sv tld
  split
  · rfl
  · split
    · exact decideS_e _ _
    · rfl
theorem kd_le {m : List En} {x : En} (h : x.kind ≤ 3) : kd m x ≤ 3 := by unfold kd; split <;> omega
theorem kd_cases (m : List En) (x : En) : kd m x = x.kind ∨ (x.kind = 3 ∧ kd m x = 2) := by
  unfold kd
  split
  · rename_i h; exact .inr ⟨h.1, rfl⟩
  · exact .inl rfl
theorem tld_eq (m : List En) (x : En) : (tld m x).row = x.row ∧ (tld m x).fam = x.fam ∧ (tld m x).qual = x.qual ∧ (tld m x).ts = x.ts ∧ (tld m x).seq = x.seq ∧ (tld m x).val = x.val ∧ ((tld m x).kind = x.kind ∨ (x.kind = 3 ∧ (tld m x).kind = 2)) := by
  unfold tld
  split
  · exact ⟨rfl, rfl, rfl, rfl, rfl, rfl, .inl rfl⟩
  · split
    · exact ⟨rfl, rfl, rfl, rfl, rfl, rfl, kd_cases m x⟩
    · exact ⟨rfl, rfl, rfl, rfl, rfl, rfl, .inl rfl⟩
theorem tld_ah (m : List En) {a b : En} (h : Ah a b) : Ah (tld m a) (tld m b) := by
  obtain ⟨a1, a2, a3, a4, a5, _, a7⟩ := tld_eq m a
  obtain ⟨b1, b2, b3, b4, b5, _, b7⟩ := tld_eq m b
  have e5 : ((tld m a).kind = 5 ↔ (tld m b).kind = 5) ↔ (a.kind = 5 ↔ b.kind = 5) := by omega
  have e4 : ((tld m a).kind = 4 ↔ (tld m b).kind = 4) ↔ (a.kind = 4 ↔ b.kind = 4) := by omega
  constructor
  · rw [a1, b1]; exact h.row
  · rw [a1, b1, a2, b2]; exact h.fam
  · rw [a1, b1, a2, b2]; intro x y z; have := h.k5 x y (by omega); omega
  · rw [a1, b1, a2, b2, a3, b3, e5]; exact h.qual
  · rw [a1, b1, a2, b2, a3, b3, e5]; intro x y z u v; have := h.k4 x y z u (by omega); omega
  · rw [a1, b1, a2, b2, a3, b3, a4, b4, e5, e4]; exact h.ts
  · rw [a1, b1, a2, b2, a3, b3, a4, b4, a5, b5, e5, e4]; exact h.seq
theorem tld_va (m : List En) {a : En} (h : Va a) : Va (tld m a) := by
  obtain ⟨a1, a2, a3, a4, a5, a6, a7⟩ := tld_eq m a
  have k1 := h.k1
  have k5 := h.k5
  refine ⟨by omega, by omega, by rw [a4]; exact h.ts, fun z => ?_, fun z => ?_⟩
  · rw [a6]; exact h.val (by omega)
  · rw [a3]; exact h.qual (by omega)
theorem tld_sorted {m : List En} (hs : m.Pairwise Ah) (P : En → Bool) : ((m.filter P).map (tld m)).Pairwise Ah := by
  rw [List.pairwise_map]
  exact (hs.filter P).imp (fun h => tld_ah m h)
theorem one_decides {m : List En} (hs : m.Pairwise Ah) {x y : En} (hx : x ∈ m) (hy : y ∈ m) (hg : gpE x y = true) (dx : decidesS m x = true) (dy : decidesS m y = true) : x = y := by
  obtain ⟨g1, g2, g3, g4, g5, g6⟩ := gpE_iff.1 hg
  have h1 := decides_iff.1 dy x hx hg
  have h2 := decides_iff.1 dx y hy (gpE_iff.2 ⟨g2, g1, g3.symm, g4.symm, g5.symm, g6.symm⟩)
  obtain ⟨a, b, rfl⟩ := List.append_of_mem hx
  have hp := List.pairwise_append.1 hs
  rcases List.mem_append.1 hy with z | z
  · have := (hp.2.2 y z x List.mem_cons_self).seq g3.symm g4.symm (by omega) g5.symm (by omega) g6.symm
    omega
  · rcases List.mem_cons.1 z with z | z
    · exact z.symm
    · have := ((List.pairwise_cons.1 hp.2.1).1 y z).seq g3 g4 (by omega) g5 (by omega) g6
      omega
theorem top_mark {m : List En} (hs : m.Pairwise Ah) (hv : ∀ e ∈ m, Va e) (x : En) : maskOf m x = 0 ∨ ∃ z ∈ m, cover z x = true ∧ z.ts = maskOf m x ∧ shadow m z = false := by
  rcases maskOf_att m x with h0 | ⟨w, hw, cw, tw⟩
  · exact .inl h0
  · right
    cases hf : m.find? (fun z => cover z x && decide (z.ts = maskOf m x)) with
    | none =>
      have := List.find?_eq_none.1 hf w hw
      simp [cw, tw] at this
    | some z =>
      obtain ⟨hz, a, b, hm, hab⟩ := List.find?_eq_some_iff_append.1 hf
      simp only [Bool.and_eq_true, decide_eq_true_eq] at hz
      have zm : z ∈ m := by rw [hm]; simp
      refine ⟨z, zm, hz.1, hz.2, ?_⟩
      cases hsh : shadow m z with
      | false => rfl
      | true =>
        exfalso
        obtain ⟨y, hy, cy, hc⟩ := shadow_iff.1 hsh
        have cz := cover_iff.1 hz.1
        have cc := cover_iff.1 cy
        have z5 := (hv z zm).k5
        have cyx : cover y x = true := cover_iff.2 ⟨cc.1.trans cz.1, cc.2.1.trans cz.2.1, by
          rcases cc.2.2 with k | ⟨k, k2, k3⟩
          · exact .inl k
          · rcases cz.2.2 with j | ⟨j, j2, j3⟩
            · exact absurd j k2
            · exact .inr ⟨k, j2, k3.trans j3⟩⟩
        have ht := maskOf_le hy cyx
        rw [hm] at hy
        rcases List.mem_append.1 hy with q | q
        · have := hab y q
          have t : y.ts = maskOf m x := by omega
          simp [cyx, t] at this
        · rcases List.mem_cons.1 q with rfl | q
          · omega
          · have hp := List.pairwise_append.1 (hm ▸ hs)
            have ha := (List.pairwise_cons.1 hp.2.1).1 y q
            have k5 : y.kind = 5 → z.kind = 5 := ha.k5 cc.1.symm cc.2.1.symm
            have qe : z.qual = y.qual := by
              rcases cc.2.2 with w | ⟨_, _, w⟩
              · rw [(hv z zm).qual (k5 w), (hv y (by rw [hm]; exact List.mem_append_right _ (List.mem_cons_of_mem _ q))).qual w]
              · exact w.symm
            have kk : z.kind = y.kind := by
              rcases cc.2.2 with w | ⟨w, w2, _⟩
              · rw [k5 w, w]
              · rcases cz.2.2 with j | ⟨j, _⟩
                · exact absurd j w2
                · omega
            have := ha.seq cc.1.symm cc.2.1.symm (by omega) qe (by omega) (by omega)
            omega
theorem out_tld {m : List En} (hs : m.Pairwise Ah) (hv : ∀ e ∈ m, Va e) (major : Bool) (low : Int) : outS major low (verdictsS fs clock m) = (m.filter fun x => staysS major low (sv fs clock m x)).map (tld m) := by
  rw [out_spec hs hv, List.map_map]
  apply List.map_congr_left
  intro x _
  exact sv_e m x
theorem sv_mark {m : List En} {x : En} (h : 4 ≤ x.kind) : sv fs clock m x = ⟨x, if shadow m x then 8 else 7, 0⟩ := by unfold sv; rw [if_pos h]
theorem stays_mark {m : List En} {x : En} {major : Bool} {low : Int} (h : 4 ≤ x.kind) (hp : staysS major low (sv fs clock m x) = true) : shadow m x = false := by
  rw [sv_mark h] at hp
  cases hsh : shadow m x with
  | false => rfl
  | true => simp [staysS, hsh] at hp
theorem stays_ver {m : List En} {x : En} {major : Bool} {low : Int} (h : x.kind ≤ 3) (hp : staysS major low (sv fs clock m x) = true) : decidesS m x = true ∧ maskOf m x < x.ts ∧ expS fs clock x = false ∧ (kd m x ≠ 3 → above fs clock m x + 1 ≤ (famAt fs x.fam).1) := by
  unfold sv at hp
  rw [if_neg (by omega)] at hp
  cases hd : decidesS m x with
  | false => rw [hd] at hp; simp [staysS] at hp
  | true =>
    rw [hd, if_pos rfl] at hp
    unfold decideS at hp
    simp only at hp
    by_cases h1 : x.ts ≤ maskOf m x
    · rw [if_pos h1] at hp; simp [staysS] at hp
    · rw [if_neg h1] at hp
      by_cases h2 : 0 < (famAt fs x.fam).2 ∧ x.ts + (famAt fs x.fam).2 ≤ clock
      · rw [if_pos h2] at hp; simp [staysS] at hp
      · rw [if_neg h2] at hp
        refine ⟨rfl, by omega, by simpa [expS] using h2, fun h3 => ?_⟩
        rw [if_neg h3] at hp
        by_cases h4 : (famAt fs x.fam).1 < above fs clock m x + 1
        · simp [staysS, h4] at hp
        · omega
theorem sv_ver {m : List En} {x : En} (h : x.kind ≤ 3) (hd : decidesS m x = true) (hm : maskOf m x < x.ts) (he : expS fs clock x = false) : sv fs clock m x = if kd m x = 3 then ⟨{ x with kind := kd m x }, 6, 0⟩ else ⟨{ x with kind := kd m x }, if (famAt fs x.fam).1 < above fs clock m x + 1 then 4 else 5, above fs clock m x + 1⟩ := by
  have h2 : ¬ (0 < (famAt fs x.fam).2 ∧ x.ts + (famAt fs x.fam).2 ≤ clock) := by simpa [expS] using he
  unfold sv
  rw [if_neg (by omega), if_pos hd]
  unfold decideS
  simp only
  rw [if_neg (by omega), if_neg h2]
  split <;> rfl
theorem tld_ver {m : List En} {x : En} (h : x.kind ≤ 3) (hd : decidesS m x = true) : tld m x = { x with kind := kd m x } := by
  unfold tld
  rw [if_neg (by omega), if_pos hd]
theorem above_le {m : List En} {x y : En} (hM : mates y x = true) (ht : x.ts < y.ts) : above fs clock m y ≤ above fs clock m x := by
  unfold above
  rw [← List.countP_eq_length_filter, ← List.countP_eq_length_filter]
  have := List.countP_mono_left (l := m) (p := fun z => counts fs clock m z && mates z y && decide (y.ts < z.ts)) (q := fun z => counts fs clock m z && mates z x && decide (x.ts < z.ts)) (fun z _ hz => by
    simp only [Bool.and_eq_true, decide_eq_true_eq] at hz ⊢
    obtain ⟨⟨h1, h2⟩, h3⟩ := hz
    have a := mates_iff.1 hM
    have b := mates_iff.1 h2
    exact ⟨⟨h1, mates_iff.2 ⟨b.1.trans a.1, b.2.1.trans a.2.1, b.2.2.trans a.2.2⟩⟩, by omega⟩)
  omega
section
variable {m : List En} {major : Bool} {low : Int}
def leftL (fs : List (Int × Int)) (clock : Int) (m : List En) (major : Bool) (low : Int) : List En := (m.filter fun x => staysS major low (sv fs clock m x)).map (tld m)
theorem left_mem {z : En} : z ∈ leftL fs clock m major low ↔ ∃ x ∈ m, staysS major low (sv fs clock m x) = true ∧ tld m x = z := by
  unfold leftL
  simp only [List.mem_map, List.mem_filter, and_assoc]
theorem left_grp (hs : m.Pairwise Ah) {x z : En} (hx : x ∈ m) (h3 : x.kind ≤ 3) (hp : staysS major low (sv fs clock m x) = true) (hz : z ∈ leftL fs clock m major low) (hg : gpE z (tld m x) = true) : z = tld m x := by
  obtain ⟨y, hy, py, rfl⟩ := left_mem.1 hz
  obtain ⟨g1, g2, g3, g4, g5, g6⟩ := gpE_iff.1 hg
  obtain ⟨a1, a2, a3, a4, a5, a6, a7⟩ := tld_eq m x
  obtain ⟨b1, b2, b3, b4, b5, b6, b7⟩ := tld_eq m y
  have y3 : y.kind ≤ 3 := by omega
  have := one_decides hs hy hx (gpE_iff.2 ⟨y3, h3, by rw [← b1, g3, a1], by rw [← b2, g4, a2], by rw [← b3, g5, a3], by rw [← b4, g6, a4]⟩) (stays_ver y3 py).1 (stays_ver h3 hp).1
  rw [this]
theorem left_cover (hv : ∀ e ∈ m, Va e) {x z : En} (hz : z ∈ leftL fs clock m major low) (hc : cover z (tld m x) = true) : z ∈ m ∧ cover z x = true ∧ staysS major low (sv fs clock m z) = true := by
  obtain ⟨y, hy, py, rfl⟩ := left_mem.1 hz
  have cc := cover_iff.1 hc
  obtain ⟨a1, a2, a3, a4, a5, a6, a7⟩ := tld_eq m x
  obtain ⟨b1, b2, b3, b4, b5, b6, b7⟩ := tld_eq m y
  have yk : 4 ≤ y.kind := by rcases cc.2.2 with h | ⟨h, _⟩ <;> omega
  have ye : tld m y = y := by unfold tld; rw [if_pos yk]
  rw [ye] at cc ⊢
  refine ⟨hy, cover_iff.2 ⟨cc.1.trans a1, cc.2.1.trans a2, ?_⟩, py⟩
  rcases cc.2.2 with h | ⟨h, h5, hq⟩
  · exact .inl h
  · exact .inr ⟨h, by omega, hq.trans a3⟩
theorem left_mask (hv : ∀ e ∈ m, Va e) (x : En) : maskOf (leftL fs clock m major low) (tld m x) ≤ maskOf m x :=
  maskOf_mono fun z hz hc => ⟨(left_cover hv hz hc).1, (left_cover hv hz hc).2.1⟩
theorem left_dec (hs : m.Pairwise Ah) {x : En} (hx : x ∈ m) (h3 : x.kind ≤ 3) (hp : staysS major low (sv fs clock m x) = true) : decidesS (leftL fs clock m major low) (tld m x) = true :=
  decides_iff.2 fun z hz hg => by rw [left_grp hs hx h3 hp hz hg]; exact Int.le_refl _
theorem left_kd (hs : m.Pairwise Ah) {x : En} (hx : x ∈ m) (h3 : x.kind ≤ 3) (hp : staysS major low (sv fs clock m x) = true) : kd (leftL fs clock m major low) (tld m x) = kd m x := by
  have e : (tld m x).kind = kd m x := by rw [tld_ver h3 (stays_ver h3 hp).1]
  unfold kd
  rw [if_neg]
  · exact e
  · rintro ⟨k, hP⟩
    obtain ⟨z, hz, hg, hz3⟩ := hasPut_iff.1 hP
    rw [left_grp hs hx h3 hp hz hg] at hz3
    exact hz3 k
theorem left_exp (x : En) : expS fs clock (tld m x) = expS fs clock x := by
  obtain ⟨a1, a2, a3, a4, a5, a6, a7⟩ := tld_eq m x
  unfold expS
  rw [a2, a4]
theorem left_counts (hs : m.Pairwise Ah) (hv : ∀ e ∈ m, Va e) {x : En} (hx : x ∈ m) (hp : staysS major low (sv fs clock m x) = true) : counts fs clock (leftL fs clock m major low) (tld m x) = counts fs clock m x := by
  rw [Bool.eq_iff_iff, counts_iff, counts_iff]
  obtain ⟨a1, a2, a3, a4, a5, a6, a7⟩ := tld_eq m x
  by_cases h3 : x.kind ≤ 3
  · obtain ⟨s1, s2, s3, s4⟩ := stays_ver h3 hp
    have := left_mask (fs := fs) (clock := clock) (major := major) (low := low) hv x
    rw [left_kd hs hx h3 hp, left_exp, left_dec hs hx h3 hp, a4, s1, s3]
    constructor
    · rintro ⟨_, _, k, _⟩
      exact ⟨h3, rfl, k, s2, rfl⟩
    · rintro ⟨_, _, k, _⟩
      exact ⟨by omega, rfl, k, by omega, rfl⟩
  · constructor
    · rintro ⟨k, _⟩; omega
    · rintro ⟨k, _⟩; omega
theorem left_above (hs : m.Pairwise Ah) (hv : ∀ e ∈ m, Va e) {x : En} (hx : x ∈ m) (h3 : x.kind ≤ 3) (hp : staysS major low (sv fs clock m x) = true) (hk : kd m x ≠ 3) : above fs clock (leftL fs clock m major low) (tld m x) = above fs clock m x := by
  obtain ⟨a1, a2, a3, a4, a5, a6, a7⟩ := tld_eq m x
  have sx := stays_ver h3 hp
  show (((leftL fs clock m major low).filter fun z => counts fs clock (leftL fs clock m major low) z && mates z (tld m x) && decide ((tld m x).ts < z.ts)).length : Int) = _
  have e1 : ∀ Q : En → Bool, (leftL fs clock m major low).filter Q = ((m.filter fun y => staysS major low (sv fs clock m y)).filter (fun y => Q (tld m y))).map (tld m) := fun Q => by
    unfold leftL
    rw [List.filter_map]
    rfl
  rw [e1, List.length_map, List.filter_filter]
  unfold above
  congr 2
  apply List.filter_congr
  intro y hy
  obtain ⟨b1, b2, b3, b4, b5, b6, b7⟩ := tld_eq m y
  have em : mates (tld m y) (tld m x) = mates y x := by simp only [mates, a1, a2, a3, b1, b2, b3]
  cases py : staysS major low (sv fs clock m y) with
  | true => rw [left_counts hs hv hy py, em, a4, b4, Bool.and_true]
  | false =>
    rw [Bool.and_false]
    cases hc : (counts fs clock m y && mates y x && decide (x.ts < y.ts)) with
    | false => rfl
    | true =>
      exfalso
      simp only [Bool.and_eq_true, decide_eq_true_eq] at hc
      obtain ⟨⟨c1, c2⟩, c3⟩ := hc
      obtain ⟨d1, d2, d3, d4, d5⟩ := counts_iff.1 c1
      have := above_le (fs := fs) (clock := clock) (m := m) c2 c3
      have mx := sx.2.2.2 hk
      have ef : (famAt fs y.fam).1 = (famAt fs x.fam).1 := by rw [(mates_iff.1 c2).2.1]
      rw [sv_ver d1 d2 d4 d5, if_neg d3, if_neg (by omega)] at py
      simp [staysS] at py
theorem left_sv (hs : m.Pairwise Ah) (hv : ∀ e ∈ m, Va e) {x : En} (hx : x ∈ m) (hp : staysS major low (sv fs clock m x) = true) : sv fs clock (leftL fs clock m major low) (tld m x) = sv fs clock m x := by
  obtain ⟨a1, a2, a3, a4, a5, a6, a7⟩ := tld_eq m x
  by_cases h3 : x.kind ≤ 3
  · obtain ⟨s1, s2, s3, s4⟩ := stays_ver h3 hp
    have hmk := left_mask (fs := fs) (clock := clock) (major := major) (low := low) hv x
    rw [sv_ver h3 s1 s2 s3, sv_ver (by omega) (left_dec hs hx h3 hp) (by omega) (by rw [left_exp]; exact s3), left_kd hs hx h3 hp]
    have e : ({ tld m x with kind := kd m x } : En) = { x with kind := kd m x } := by rw [tld_ver h3 s1]
    by_cases hk : kd m x = 3
    · rw [if_pos hk, if_pos hk, e]
    · rw [if_neg hk, if_neg hk, e, left_above hs hv hx h3 hp hk, a2]
  · have k4 : 4 ≤ x.kind := by omega
    have xe : tld m x = x := by unfold tld; rw [if_pos k4]
    have h1 := stays_mark k4 hp
    have h2 : shadow (leftL fs clock m major low) (tld m x) = false := by
      cases h : shadow (leftL fs clock m major low) (tld m x) with
      | false => rfl
      | true =>
        obtain ⟨y, hy, c, hc⟩ := shadow_iff.1 h
        have := left_cover hv hy c
        rw [xe] at hc
        rw [shadow_iff.2 ⟨y, this.1, this.2.1, hc⟩] at h1
        cases h1
    rw [sv_mark (by omega), sv_mark k4, h1, h2, xe]
theorem again {m2 : Bool} (hs : m.Pairwise Ah) (hv : ∀ e ∈ m, Va e) (hi : ∀ v, staysS m2 low v = true → staysS major low v = true) :
    outS m2 low (verdictsS fs clock (outS major low (verdictsS fs clock m))) = outS m2 low (verdictsS fs clock m) := by
  have e0 : outS major low (verdictsS fs clock m) = leftL fs clock m major low := out_tld hs hv major low
  have hsL : (leftL fs clock m major low).Pairwise Ah := tld_sorted hs _
  have hvL : ∀ e ∈ leftL fs clock m major low, Va e := fun e he => by
    obtain ⟨x, hx, _, rfl⟩ := left_mem.1 he
    exact tld_va m (hv x hx)
  rw [e0, out_tld hsL hvL, out_tld hs hv]
  have e1 : ∀ (Q : En → Bool) (g : En → En), ((leftL fs clock m major low).filter Q).map g = ((m.filter fun y => staysS major low (sv fs clock m y)).filter (fun y => Q (tld m y))).map (fun y => g (tld m y)) := fun Q g => by
    unfold leftL
    rw [List.filter_map, List.map_map]
    rfl
  rw [e1, List.filter_filter]
  have e2 : (m.filter fun y => staysS m2 low (sv fs clock (leftL fs clock m major low) (tld m y)) && staysS major low (sv fs clock m y)) = m.filter fun y => staysS m2 low (sv fs clock m y) := by
    apply List.filter_congr
    intro y hy
    cases py : staysS major low (sv fs clock m y) with
    | true => rw [left_sv hs hv hy py, Bool.and_true]
    | false =>
      rw [Bool.and_false]
      cases q : staysS m2 low (sv fs clock m y) with
      | false => rfl
      | true => rw [hi _ q] at py; cases py
  rw [e2]
  apply List.map_congr_left
  intro y hy
  obtain ⟨hy, q⟩ := List.mem_filter.1 hy
  have py := hi _ q
  rw [← sv_e (fs := fs) (clock := clock), left_sv hs hv hy py, sv_e]
end
end
end Go.Proofs.YtganmnckdmkcbaaGreat

namespace Go.Proofs.YtganmnckdmkcbaaGreat
open Go.RowKit
set_option linter.unusedVariables false

theorem va_of_check {k : Nat} {e : EntD} (h : check3S k e = 0) : Va e.dat := by
  unfold check3S at h
  by_cases hc : checkS e = 0
  · unfold checkS at hc
    repeat' split at hc
    all_goals first | (exfalso; omega) | skip
    have hq : ∀ l : List Nat, ¬ 0 < l.length → l = [] := fun l hl => List.eq_nil_of_length_eq_zero (by omega)
    refine ⟨?_, ?_, ?_, fun z => hq _ (fun y => ?_), fun z => hq _ (fun y => ?_)⟩
    · show 1 ≤ e.kind; omega
    · show e.kind ≤ 5; omega
    · show 1 ≤ e.ts; omega
    · have z : e.kind ≠ 1 := z
      have y : 0 < e.val.length := y
      omega
    · have z : e.kind = 5 := z
      have y : 0 < e.qual.length := y
      omega
  · rw [if_pos hc] at h
    omega
theorem mark_cases (k a : Int) : (mark k a : Int) = if k = a then 0 else 1 := by
  unfold mark
  split <;> rfl
theorem cmpI_le {a b : Int} (h : cmpI a b ≤ 0) : a ≤ b := by
  unfold cmpI at h
  repeat' split at h
  all_goals omega
theorem cmpI_zero3 {a b : Int} : cmpI a b = 0 ↔ a = b := by
  unfold cmpI
  repeat' split
  all_goals omega
theorem lex_le {a b : Int} (h : (if a = 0 then b else a) ≤ 0) : a ≤ 0 ∧ (a = 0 → b ≤ 0) := by
  by_cases z : a = 0
  · rw [if_pos z] at h; exact ⟨by omega, fun _ => h⟩
  · rw [if_neg z] at h; exact ⟨h, fun y => absurd y z⟩
theorem ah_of {x y : EntD} (h : compareS x y ≤ 0) (hne : x.seq ≠ y.seq) : Ah x.dat y.dat := by
  unfold compareS cmpsS at h
  simp only [firstNZ] at h
  obtain ⟨h1, h⟩ := lex_le h
  have r0 : x.row = y.row → ordC x.row y.row = 0 := fun e => by rw [e]; exact ordC_self _
  have q0 : x.qual = y.qual → ordC x.qual y.qual = 0 := fun e => by rw [e]; exact ordC_self _
  have a5 : (x.kind = 5 ↔ y.kind = 5) → aheadS x y 5 = 0 := fun e => by
    unfold aheadS
    rw [cmpI_zero3, mark_cases, mark_cases]
    split <;> split <;> omega
  have a4 : (x.kind = 4 ↔ y.kind = 4) → aheadS x y 4 = 0 := fun e => by
    unfold aheadS
    rw [cmpI_zero3, mark_cases, mark_cases]
    split <;> split <;> omega
  refine ⟨h1, fun e1 => ?_, fun e1 e2 e3 => ?_, fun e1 e2 e3 => ?_, fun e1 e2 e3 e4 e5 => ?_, fun e1 e2 e3 e4 e5 => ?_, fun e1 e2 e3 e4 e5 e6 => ?_⟩
  · exact cmpI_le (lex_le (h (r0 e1))).1
  · have := (lex_le ((lex_le (h (r0 e1))).2 (cmpI_zero3.2 e2))).1
    have := cmpI_le this
    rw [mark_cases, mark_cases] at this
    show x.kind = 5
    have e3 : y.kind = 5 := e3
    rw [if_pos e3] at this
    split at this
    · assumption
    · omega
  · exact (lex_le ((lex_le ((lex_le (h (r0 e1))).2 (cmpI_zero3.2 e2))).2 (a5 e3))).1
  · have := (lex_le ((lex_le ((lex_le ((lex_le (h (r0 e1))).2 (cmpI_zero3.2 e2))).2 (a5 e3))).2 (q0 e4))).1
    have := cmpI_le this
    rw [mark_cases, mark_cases] at this
    show x.kind = 4
    have e5 : y.kind = 4 := e5
    rw [if_pos e5] at this
    split at this
    · assumption
    · omega
  · exact cmpI_le (lex_le ((lex_le ((lex_le ((lex_le ((lex_le (h (r0 e1))).2 (cmpI_zero3.2 e2))).2 (a5 e3))).2 (q0 e4))).2 (a4 e5))).1
  · have := cmpI_le (lex_le ((lex_le ((lex_le ((lex_le ((lex_le ((lex_le (h (r0 e1))).2 (cmpI_zero3.2 e2))).2 (a5 e3))).2 (q0 e4))).2 (a4 e5))).2 (cmpI_zero3.2 e6.symm))).1
    show y.seq < x.seq
    omega
theorem ah_irrefl {a : En} (h : Ah a a) : False := by
  have := h.seq rfl rfl Iff.rfl rfl Iff.rfl rfl
  omega
theorem ah_asymm {a b : En} (h : Ah a b) (k : Ah b a) : False := by
  have r : a.row = b.row := by have := ordC_swap a.row b.row; have := h.row; have := k.row; exact ordC_eq _ _ (by omega)
  have f : a.fam = b.fam := by have := h.fam r; have := k.fam r.symm; omega
  have k5 : a.kind = 5 ↔ b.kind = 5 := ⟨k.k5 r.symm f.symm, h.k5 r f⟩
  have q : a.qual = b.qual := by have := ordC_swap a.qual b.qual; have := h.qual r f k5; have := k.qual r.symm f.symm k5.symm; exact ordC_eq _ _ (by omega)
  have k4 : a.kind = 4 ↔ b.kind = 4 := ⟨k.k4 r.symm f.symm k5.symm q.symm, h.k4 r f k5 q⟩
  have t : a.ts = b.ts := by have := h.ts r f k5 q k4; have := k.ts r.symm f.symm k5.symm q.symm k4.symm; omega
  have := h.seq r f k5 q k4 t
  have := k.seq r.symm f.symm k5.symm q.symm k4.symm t.symm
  omega
theorem ord_unique : ∀ {l l' : List En}, l.Pairwise Ah → l'.Pairwise Ah → (∀ e, e ∈ l ↔ e ∈ l') → l = l'
  | [], [], _, _, _ => rfl
  | [], b :: t', _, _, h => by have := (h b).2 List.mem_cons_self; cases this
  | a :: t, [], _, _, h => by have := (h a).1 List.mem_cons_self; cases this
  | a :: t, b :: t', hl, hl', h => by
    have p := List.pairwise_cons.1 hl
    have p' := List.pairwise_cons.1 hl'
    have e : a = b := by
      rcases List.mem_cons.1 ((h a).1 List.mem_cons_self) with e | m1
      · exact e
      · rcases List.mem_cons.1 ((h b).2 List.mem_cons_self) with e | m2
        · exact e.symm
        · exact (ah_asymm (p.1 b m2) (p'.1 a m1)).elim
    subst e
    congr 1
    refine ord_unique p.2 p'.2 fun x => ⟨fun hx => ?_, fun hx => ?_⟩
    · rcases List.mem_cons.1 ((h x).1 (List.mem_cons_of_mem _ hx)) with rfl | q
      · exact (ah_irrefl (p.1 x hx)).elim
      · exact q
    · rcases List.mem_cons.1 ((h x).2 (List.mem_cons_of_mem _ hx)) with rfl | q
      · exact (ah_irrefl (p'.1 x hx)).elim
      · exact q
def EntD.ofEn (e : En) : EntD := ⟨.slice none 0 0, e.fam, .slice none 0 0, e.ts, e.seq, e.kind, .slice none 0 0, e.row, e.qual, e.val⟩
theorem check_dat (k : Nat) (x : EntD) : check3S k x = check3S k (EntD.ofEn x.dat) := rfl
structure IsOrd (k : Nat) (l m : List En) : Prop where
  ah : m.Pairwise Ah
  ne : m.Pairwise fun a b => a.seq ≠ b.seq
  va : ∀ e ∈ m, Va e
  ck : ∀ e ∈ m, check3S k (EntD.ofEn e) = 0
  mem : ∀ e, e ∈ m ↔ e ∈ l
theorem IsOrd.unique {k k' : Nat} {l m m' : List En} (h : IsOrd k l m) (h' : IsOrd k' l m') : m = m' := ord_unique h.ah h'.ah fun e => (h.mem e).trans (h'.mem e).symm
theorem sameS_dat {a b : EntD} (h : sameS a b = true) : a.dat = b.dat := by
  unfold sameS at h
  simp only [Bool.and_eq_true, decide_eq_true_eq] at h
  obtain ⟨h1, h2⟩ := h
  unfold compareS cmpsS at h1
  simp only [firstNZ] at h1
  have z : ∀ {a b : Int}, (if a = 0 then b else a) = 0 → a = 0 ∧ b = 0 := fun {a b} e => by
    by_cases y : a = 0
    · rw [if_pos y] at e; exact ⟨y, e⟩
    · rw [if_neg y] at e; exact absurd e y
  obtain ⟨z1, h1⟩ := z h1
  obtain ⟨z2, h1⟩ := z h1
  obtain ⟨z3, h1⟩ := z h1
  obtain ⟨z4, h1⟩ := z h1
  obtain ⟨z5, h1⟩ := z h1
  obtain ⟨z6, h1⟩ := z h1
  obtain ⟨z7, h1⟩ := z h1
  obtain ⟨z8, h1⟩ := z h1
  unfold EntD.dat
  rw [ordC_eq _ _ z1, cmpI_zero3.1 z2, ordC_eq _ _ z4, ← cmpI_zero3.1 z6, ← cmpI_zero3.1 z7, cmpI_zero3.1 z8, h2]
theorem sameS_of {a b : EntD} (h : a.dat = b.dat) : sameS a b = true := by
  have e := EntD.dat_same.1 h
  have : compareS a b = 0 := by rw [compareS_same (c := b) (d := b) e (EntD.dat_same.1 rfl)]; exact compareS_self b
  unfold sameS
  rw [this, e.2.2.2.2.2.2]
  simp
theorem once_all (l : List EntD) : ∀ (acc xs : List EntD), (acc.Pairwise fun a b => a.seq ≠ b.seq) → l.foldl (fun o e => o.bind fun xs => addO xs e) (some acc) = some xs → (xs.Pairwise fun a b => a.seq ≠ b.seq) ∧ ∀ d, d ∈ xs.map EntD.dat ↔ d ∈ (acc ++ l).map EntD.dat := by
  induction l with
  | nil => intro acc xs hp h; cases h; exact ⟨hp, fun d => by rw [List.append_nil]⟩
  | cons e r ih =>
    intro acc xs hp h
    have h2 : r.foldl (fun o e => o.bind fun xs => addO xs e) (addO acc e) = some xs := h
    cases hf : acc.find? (fun x => x.seq == e.seq) with
    | none =>
      have ha : addO acc e = some (acc ++ [e]) := by unfold addO; rw [hf]
      rw [ha] at h2
      have hn := List.find?_eq_none.1 hf
      have := ih (acc ++ [e]) xs (List.pairwise_append.2 ⟨hp, List.pairwise_singleton _ _, fun x hx y hy => by
        rw [List.mem_singleton] at hy
        subst hy
        have := hn x hx
        simpa using this⟩) h2
      refine ⟨this.1, fun d => ?_⟩
      rw [this.2 d, List.append_assoc]
      rfl
    | some x =>
      have ha : addO acc e = if sameS x e then some acc else none := addO_old hf
      rw [ha] at h2
      cases hs : sameS x e with
      | false => rw [hs] at h2; rw [if_neg (by simp), once_none] at h2; cases h2
      | true =>
        rw [hs, if_pos rfl] at h2
        have := ih acc xs hp h2
        refine ⟨this.1, fun d => ?_⟩
        rw [this.2 d, List.map_append, List.map_append, List.map_cons, List.mem_append, List.mem_append, List.mem_cons]
        have xd := sameS_dat hs
        have xm : x ∈ acc := List.mem_of_find?_eq_some hf
        constructor
        · rintro (q | q)
          · exact .inl q
          · exact .inr (.inr q)
        · rintro (q | q | q)
          · exact .inl q
          · exact .inl (by rw [q, ← xd]; exact List.mem_map_of_mem xm)
          · exact .inr q
theorem isOrd_of {k : Nat} {l xs ys : List EntD} (hc : inOrderE (check3S k) l = 0) (ho : onceS l = some xs) (hp : ys.Perm xs) (hs : ys.Pairwise fun x y => compareS x y ≤ 0) : IsOrd k (l.map EntD.dat) (ys.map EntD.dat) := by
  obtain ⟨hall, -⟩ := inOrder_ok hc
  obtain ⟨h1, h2⟩ := once_all l [] xs List.Pairwise.nil ho
  have hne : ys.Pairwise fun a b => a.seq ≠ b.seq := (hp.pairwise_iff (fun h => Ne.symm h)).2 h1
  have hmem : ∀ y ∈ ys, y ∈ l := fun y hy => onceS_mem ho y (hp.mem_iff.1 hy)
  refine ⟨?_, ?_, fun e he => ?_, fun e he => ?_, fun e => ?_⟩
  · rw [List.pairwise_map]
    exact (hs.and hne).imp fun h => ah_of h.1 h.2
  · rw [List.pairwise_map]; exact hne
  · obtain ⟨y, hy, rfl⟩ := List.mem_map.1 he
    exact va_of_check (hall y (hmem y hy))
  · obtain ⟨y, hy, rfl⟩ := List.mem_map.1 he
    exact hall y (hmem y hy)
  · rw [(hp.map EntD.dat).mem_iff]
    exact h2 e
theorem firstBad_none {chk : EntD → Int} {l : List EntD} (h : ∀ x ∈ l, chk x = 0) : firstBad chk l = 0 := firstBad_zero h
theorem once_self (l : List EntD) : ∀ (acc : List EntD), ((acc ++ l).Pairwise fun a b => a.seq ≠ b.seq) → l.foldl (fun o e => o.bind fun xs => addO xs e) (some acc) = some (acc ++ l) := by
  induction l with
  | nil => intro acc _; rw [List.append_nil]; rfl
  | cons e r ih =>
    intro acc hp
    show r.foldl (fun o e => o.bind fun xs => addO xs e) (addO acc e) = _
    have hf : acc.find? (fun x => x.seq == e.seq) = none := List.find?_eq_none.2 fun x hx => by
      have := (List.pairwise_append.1 hp).2.2 x hx e List.mem_cons_self
      simpa using this
    have ha : addO acc e = some (acc ++ [e]) := by unfold addO; rw [hf]
    rw [ha, ih (acc ++ [e]) (by rw [List.append_assoc]; exact hp), List.append_assoc]
    rfl
theorem IsOrd.takes {k : Nat} {l m : List En} (h : IsOrd k l m) {zs : List EntD} (hz : zs.map EntD.dat = m) : inOrderE (check3S k) zs = 0 := by
  have hne : zs.Pairwise fun a b => a.seq ≠ b.seq := by
    have := h.ne
    rw [← hz, List.pairwise_map] at this
    exact this
  have ho : onceS zs = some zs := by simpa [onceS] using once_self zs [] (by simpa using hne)
  unfold inOrderE
  rw [firstBad_zero (fun x hx => by rw [check_dat]; exact h.ck x.dat (by rw [← hz]; exact List.mem_map_of_mem hx)), if_neg (by simp), if_neg (by rw [ho]; simp)]
theorem tld_two (m : List En) (e : En) : tld m e = e ∨ (e.kind = 3 ∧ tld m e = { e with kind := 2 }) := by
  unfold tld
  split
  · exact .inl rfl
  · split
    · rcases kd_cases m e with h | ⟨h, h2⟩
      · rw [h]; exact .inl rfl
      · rw [h2]; exact .inr ⟨h, rfl⟩
    · exact .inl rfl
theorem check_zero {k : Nat} {e : EntD} : check3S k e = 0 ↔ (¬ (e.row.length = 0 ∨ 256 < e.row.length) ∧ ¬ (e.fam < 0 ∨ 8 ≤ e.fam) ∧ ¬ (256 < e.qual.length ∨ (0 < e.qual.length ∧ e.kind = 5)) ∧ ¬ (e.ts < 1 ∨ 1099511627776 < e.ts) ∧ ¬ (e.seq < 0 ∨ 17592186044431 < e.seq) ∧ ¬ (e.kind < 1 ∨ 5 < e.kind) ∧ ¬ (4096 < e.val.length ∨ (0 < e.val.length ∧ e.kind ≠ 1))) ∧ ¬ (k : Int) ≤ e.fam := by
  constructor
  · intro h
    unfold check3S at h
    by_cases z : checkS e = 0
    · rw [if_neg (by simpa using z)] at h
      refine ⟨?_, fun y => by rw [if_pos y] at h; cases h⟩
      unfold checkS at z
      repeat' split at z
      all_goals first | (exfalso; omega) | skip
      refine ⟨by assumption, by assumption, by assumption, by assumption, by assumption, by assumption, by assumption⟩
    · rw [if_pos z] at h; omega
  · rintro ⟨⟨h1, h2, h3, h4, h5, h6, h7⟩, h8⟩
    have z : checkS e = 0 := by unfold checkS; rw [if_neg h1, if_neg h2, if_neg h3, if_neg h4, if_neg h5, if_neg h6, if_neg h7]
    unfold check3S
    rw [if_neg (by simpa using z), if_neg h8]
theorem tld_ck {k : Nat} (m : List En) {e : En} (h : check3S k (EntD.ofEn e) = 0) : check3S k (EntD.ofEn (tld m e)) = 0 := by
  rcases tld_two m e with h0 | ⟨h3, h0⟩
  · rw [h0]; exact h
  · rw [h0]
    rw [check_zero] at h ⊢
    simp only [EntD.ofEn] at h ⊢
    refine ⟨⟨h.1.1, h.1.2.1, ?_, h.1.2.2.2.1, h.1.2.2.2.2.1, by omega, ?_⟩, h.2⟩
    · have := h.1.2.2.1; omega
    · have := h.1.2.2.2.2.2.2; omega
theorem IsOrd.left {fs : List (Int × Int)} {clock low : Int} {k : Nat} {l m : List En} (h : IsOrd k l m) (major : Bool) : IsOrd k (outS major low (verdictsS fs clock m)) (outS major low (verdictsS fs clock m)) := by
  rw [out_tld h.ah h.va]
  refine ⟨tld_sorted h.ah _, ?_, fun e he => ?_, fun e he => ?_, fun e => Iff.rfl⟩
  · rw [List.pairwise_map]
    refine (h.ne.filter _).imp fun {a b} hab => ?_
    rw [(tld_eq m a).2.2.2.2.1, (tld_eq m b).2.2.2.2.1]
    exact hab
  · obtain ⟨x, hx, rfl⟩ := List.mem_map.1 he
    exact tld_va m (h.va x (List.mem_filter.1 hx).1)
  · obtain ⟨x, hx, rfl⟩ := List.mem_map.1 he
    exact tld_ck m (h.ck x (List.mem_filter.1 hx).1)
end Go.Proofs.YtganmnckdmkcbaaGreat

namespace Go.Proofs.YtganmnckdmkcbaaGreat
open Go.RowKit
set_option linter.unusedVariables false

theorem sort_ok : SortP := sort_holds fun c' Z => AnyF.slices_SortFunc_none (P := Tryz.prog) (ρ := laidSort) laysSort none c' _ Z
theorem squash_all {W : World} {cap fc : Nat} {a fa : Option Addr} {fs : List FamD} {l : List EntD} (hr : RdF W (.slice fa fs.length fc) fs) (hn : fa = none → fc = 0) (C : Nat) (hC : (C = 0 ↔ SchemaOk fs) ∧ (C = 0 ∨ C = 28)) (clock low : Int) (major : Bool) (h0 : RdL3 W a cap l) (hl : l.length ≤ 1353245080300) :
    Calls Tryz.prog 23 #[.agg #[.slice fa fs.length fc], .int .i64 clock, .bool major, .int .i64 low, .slice a l.length cap] W fun r W' => Below W.heap.size W W' ∧ (squashE C fs clock low l ≠ 0 → r = .returned (.tuple #[.slice none 0 0, .int .i64 (squashE C fs clock low l)])) ∧ (squashE C fs clock low l = 0 → ∃ (zs : List EntD) (m : List En) (v : Value) (O : Nat → Prop), IsOrd fs.length (l.map EntD.dat) m ∧ r = .returned (.tuple #[v, .int .i64 0]) ∧ Rw W' W.heap.size v zs O ∧ zs.map EntD.dat = outS major low (verdictsS (mt fs) clock m) ∧ zs.length ≤ l.length) := by
  refine Calls.mono (squash_any sort_ok hr hn C hC clock low major h0 hl) ?_
  rintro r W' ⟨h1, h2, h3⟩
  refine ⟨h1, h2, fun z => ?_⟩
  obtain ⟨xs, ys, zs, v, O, k1, k2, k3, k4, k5, k6⟩ := h3 z
  have hi : inOrderE (check3S fs.length) l = 0 := by
    unfold squashE at z
    by_cases y : boundsS C [clock, low] = 0
    · rwa [if_neg (by simpa using y)] at z
    · rw [if_pos y] at z; exact absurd z y
  have ho := isOrd_of hi k1 k2 k3
  refine ⟨zs, _, v, O, ho, k4, k5, k6, ?_⟩
  have e : zs.length = (outS major low (verdictsS (mt fs) clock (ys.map EntD.dat))).length := by rw [← k6, List.length_map]
  rw [e, out_tld ho.ah ho.va, List.length_map]
  refine Nat.le_trans (List.length_filter_le _ _) ?_
  rw [List.length_map, k2.length_eq]
  exact onceS_len k1
end Go.Proofs.YtganmnckdmkcbaaGreat

namespace Go.Proofs.YtganmnckdmkcbaaGreat
open Go.RowKit
set_option linter.unusedVariables false

instance (a b : EntD) : Decidable (EntD.Same a b) := by unfold EntD.Same; infer_instance
set_option maxRecDepth 100000 in
theorem alike_any {a b : Value} {xs ys : List Nat} {w : World} (ha : Rd w a xs) (hb : Rd w b ys) :
    Calls Tryz.prog 78 #[a, b] w fun e w' => e = .returned (.bool (decide (xs = ys))) ∧ w' = w := by
  have h1 := conv_str ha
  have h2 := conv_str hb
  go_enter Tryz.func78, Tryz.ntmps78
  go_wp2
  go_ret
  exact ⟨by rw [← beq_str ha.1 hb.1]; rfl, rfl⟩
theorem alikeB_any {a b : Value} {xs ys : List Nat} {w : World} (ha : Rd w a xs) (hb : Rd w b ys) :
    Calls Tryz.prog 78 #[a, b] w fun e w' => e = .returned (.bool (decide (xs = ys))) ∧ Below w.heap.size w w' :=
  Calls.mono (alike_any ha hb) fun r w' h => ⟨h.1, by rw [h.2]; exact Below.refl _ _⟩

set_option maxRecDepth 100000 in
set_option maxHeartbeats 8000000 in
theorem same3r_any {a b : EntD} {w : World} (ha : EntD.Ok w a) (hb : EntD.Ok w b) :
    Calls Tryz.prog 45 #[.agg a.cells, .agg b.cells] w fun r w' => r = .returned (.bool (decide (EntD.Same a b))) ∧ Below w.heap.size w w' := by
  have A1 := (Below.refl w.heap.size w).alloc (Nat.le_refl _) (.cells a.cells 84)
  have A2 := A1.alloc A1.size (.cells b.cells 84)
  have bxa0 := (EBox.new w a).later ((Below.refl (w.alloc (.cells a.cells 84)).heap.size (w.alloc (.cells a.cells 84))).alloc (Nat.le_refl _) (.cells b.cells 84))
  have bxb0 := EBox.new (w.alloc (.cells a.cells 84)) b
  rw [World.size_alloc] at bxb0
  obtain ⟨V, hV⟩ : ∃ V, V = (w.alloc (.cells a.cells 84)).alloc (.cells b.cells 84) := ⟨_, rfl⟩
  rw [← hV] at A2 bxa0 bxb0
  have HV : Hid (V = _) := hV
  clear hV A1
  have HX : Hid (EBox V w.heap.size a ∧ EBox V (w.heap.size + 1) b ∧ Below w.heap.size w V) := ⟨bxa0, bxb0, A2⟩
  have HA : Hid (∀ wx, Below V.heap.size V wx → EntD.Ok wx a ∧ EntD.Ok wx b ∧ EBox wx w.heap.size a ∧ EBox wx (w.heap.size + 1) b) := fun wx q => ⟨(ha.later A2).later q, (hb.later A2).later q, bxa0.later q, bxb0.later q⟩
  obtain ⟨c0, c1, c2, c3, c4, c5, c6⟩ := (⟨bxa0.vr, bxa0.fam, bxa0.vq, bxa0.ts, bxa0.seq, bxa0.kind, bxa0.vv⟩ : _ ∧ _ ∧ _ ∧ _ ∧ _ ∧ _ ∧ _)
  obtain ⟨d0, d1, d2, d3, d4, d5, d6⟩ := (⟨bxb0.vr, bxb0.fam, bxb0.vq, bxb0.ts, bxb0.seq, bxb0.kind, bxb0.vv⟩ : _ ∧ _ ∧ _ ∧ _ ∧ _ ∧ _ ∧ _)
  clear A2 bxa0 bxb0 ha hb
  obtain ⟨va, fa, qa, ta, sa, ka, wa, ra, la, ya⟩ := a
  obtain ⟨vb, fb, qb, tb, sb, kb, wb, rb, lb, yb⟩ := b
  simp only [EntD.cells] at *
  by_cases h1 : fa = fb
  · by_cases h2 : ta = tb
    · by_cases h3 : sa = sb
      · by_cases h4 : ka = kb
        · subst h1 h2 h3 h4
          go_enter Tryz.func45, Tryz.ntmps45
          go_wp2_with fail
          rw [← HV.out]
          go_wp2_with fail
          refine (alikeB_any (HA.out _ (Below.refl _ _)).1.1 (HA.out _ (Below.refl _ _)).2.1.1).mono ?_
          rintro e w1 ⟨rfl, hb1⟩
          by_cases e1 : ra = rb
          · rw [decide_eq_true e1]
            have x2 := (HA.out _ hb1).2.2.1.vq
            have y2 := (HA.out _ hb1).2.2.2.vq
            simp only at x2 y2
            go_wp2_with fail
            refine (alikeB_any (HA.out _ hb1).1.2.1 (HA.out _ hb1).2.1.2.1).mono ?_
            rintro e w2 ⟨rfl, hb2⟩
            have B2 := hb1.trans (hb2.mono hb1.size)
            by_cases e2 : la = lb
            · rw [decide_eq_true e2]
              have x6 := (HA.out _ B2).2.2.1.vv
              have y6 := (HA.out _ B2).2.2.2.vv
              simp only at x6 y6
              go_wp2_with fail
              refine (alikeB_any (HA.out _ B2).1.2.2 (HA.out _ B2).2.1.2.2).mono ?_
              rintro e w3 ⟨rfl, hb3⟩
              have B3 := B2.trans (hb3.mono B2.size)
              by_cases e3 : ya = yb
              · rw [decide_eq_true e3]
                go_wp2
                go_ret
                have hd : decide (EntD.Same ⟨va, fa, qa, ta, sa, ka, wa, ra, la, ya⟩ ⟨vb, fa, qb, ta, sa, ka, wb, rb, lb, yb⟩) = true := decide_eq_true ⟨rfl, rfl, rfl, rfl, e1, e2, e3⟩
                rw [hd]
                exact ⟨rfl, HX.out.2.2.trans (B3.mono HX.out.2.2.size)⟩
              · rw [decide_eq_false e3]
                go_wp2
                go_ret
                rw [decide_eq_false (show ¬ EntD.Same _ _ from fun h => e3 h.2.2.2.2.2.2)]
                exact ⟨rfl, HX.out.2.2.trans (B3.mono HX.out.2.2.size)⟩
            · rw [decide_eq_false e2]
              go_wp2
              go_ret
              rw [decide_eq_false (show ¬ EntD.Same _ _ from fun h => e2 h.2.2.2.2.2.1)]
              exact ⟨rfl, HX.out.2.2.trans (B2.mono HX.out.2.2.size)⟩
          · rw [decide_eq_false e1]
            go_wp2
            go_ret
            rw [decide_eq_false (show ¬ EntD.Same _ _ from fun h => e1 h.2.2.2.2.1)]
            exact ⟨rfl, HX.out.2.2.trans (hb1.mono HX.out.2.2.size)⟩
        · subst h1 h2 h3
          go_enter Tryz.func45, Tryz.ntmps45
          go_wp2_with fail
          rw [← HV.out]
          go_wp2
          go_ret
          rw [decide_eq_false (show ¬ EntD.Same _ _ from fun h => h4 h.2.2.2.1)]
          exact ⟨rfl, HX.out.2.2⟩
      · subst h1 h2
        go_enter Tryz.func45, Tryz.ntmps45
        go_wp2_with fail
        rw [← HV.out]
        go_wp2
        go_ret
        rw [decide_eq_false (show ¬ EntD.Same _ _ from fun h => h3 h.2.2.1)]
        exact ⟨rfl, HX.out.2.2⟩
    · subst h1
      go_enter Tryz.func45, Tryz.ntmps45
      go_wp2_with fail
      rw [← HV.out]
      go_wp2
      go_ret
      rw [decide_eq_false (show ¬ EntD.Same _ _ from fun h => h2 h.2.1)]
      exact ⟨rfl, HX.out.2.2⟩
  · go_enter Tryz.func45, Tryz.ntmps45
    go_wp2_with fail
    rw [← HV.out]
    go_wp2
    go_ret
    rw [decide_eq_false (show ¬ EntD.Same _ _ from fun h => h1 h.1)]
    exact ⟨rfl, HX.out.2.2⟩
end Go.Proofs.YtganmnckdmkcbaaGreat

namespace Go.Proofs.YtganmnckdmkcbaaGreat
open Go.RowKit
set_option linter.unusedVariables false

theorem RdL3.cells {w w' : World} {b off cap : Nat} {xs : List EntD} (h : RdL3 w (some ⟨b, off, none⟩) cap xs) (hb : Below w.heap.size w w') {t : Nat} {x : EntD} (hx : xs[t]? = some x) : ∀ (j : Nat) u, x.cells.toList[j]? = some u → w'.cell? ⟨b, off + t * 7 + j, none⟩ = some u := by
  rcases (h.later hb).at_ with h0 | ⟨b2, off2, e, hc⟩
  · rw [h0] at hx; simp at hx
  · cases e
    exact hc t x hx
set_option maxRecDepth 100000 in
set_option maxHeartbeats 4000000 in
theorem sameAll_ok {w : World} {aa ab : Option Addr} {ca cb : Nat} {xs ys : List EntD} (ha : RdL3 w aa ca xs) (hb : RdL3 w ab cb ys) (hs : xs.map EntD.dat = ys.map EntD.dat) (hl : xs.length ≤ 1353245080300) :
    Calls Tryz.prog 18 #[.slice aa xs.length ca, .slice ab ys.length cb] w fun e w' => e = .returned (.bool true) ∧ Below w.heap.size w w' := by
  have HA := Lib.hid ha
  have HB := Lib.hid hb
  have el : ys.length = xs.length := by have := congrArg List.length hs; simpa using this.symm
  have HS := Lib.hid hs
  obtain ⟨n, hn⟩ : ∃ n, n = xs.length := ⟨_, rfl⟩
  rw [el, ← hn]
  rw [← hn] at hl
  have a1 : n ≤ ca := by rw [hn]; exact ha.cap.1
  have b1 : n ≤ cb := by rw [hn, ← el]; exact hb.cap.1
  have HN : Hid (xs.length = n) := hn.symm
  have HEl : Hid (ys.length = n) := el.trans hn.symm
  clear hn hs el ha hb
  have hmx : Tryz.prog.follows .mixedOrders = true := by kernel_rfl
  go_enter Tryz.func18, Tryz.ntmps18
  go_wp2
  go_loopw [5] (fun i wr => ∃ t : Nat, t ≤ n ∧ i = .int .i64 (t : Int) ∧ Below w.heap.size w wr) (fun i _ => n - (intOf i).toNat)
  case atStart => exact ⟨0, by omega, rfl, Below.refl _ _⟩
  case round =>
    obtain ⟨t, htn, rfl, hbk⟩ := hrel
    by_cases h1 : t < n
    · have h1' : (t : Int) < (n : Int) := by omega
      have ht0 : (0 : Int) ≤ (t : Int) := by omega
      have HBK := Lib.hid hbk
      obtain ⟨x, hx⟩ : ∃ x, xs[t]? = some x := ⟨xs[t]'(by rw [HN.out]; exact h1), List.getElem?_eq_getElem _⟩
      obtain ⟨y, hy⟩ : ∃ y, ys[t]? = some y := ⟨ys[t]'(by rw [HEl.out]; exact h1), List.getElem?_eq_getElem _⟩
      have hxy : EntD.Same x y := by
        have e1 : (xs.map EntD.dat)[t]? = some x.dat := by rw [List.getElem?_map, hx]; rfl
        have e2 : (ys.map EntD.dat)[t]? = some y.dat := by rw [List.getElem?_map, hy]; rfl
        rw [HS.out, e2] at e1
        exact EntD.dat_same.1 (Option.some.inj e1).symm
      obtain ⟨ba, oa, rfl⟩ : ∃ b off, aa = some ⟨b, off, none⟩ := by
        rcases HA.out.at_ with h0 | ⟨b, off, e, _⟩
        · rw [h0] at hx; simp at hx
        · exact ⟨b, off, e⟩
      obtain ⟨bb, ob, rfl⟩ : ∃ b off, ab = some ⟨b, off, none⟩ := by
        rcases HB.out.at_ with h0 | ⟨b, off, e, _⟩
        · rw [h0] at hy; simp at hy
        · exact ⟨b, off, e⟩
      have KS : Hid (∀ wx, Below wr.heap.size wr wx → (wx.cell? ⟨ba, oa + t * 7, none⟩ = some x.vr ∧ wx.cell? ⟨ba, oa + t * 7 + 1, none⟩ = some (.int .i64 x.fam) ∧ wx.cell? ⟨ba, oa + t * 7 + 2, none⟩ = some x.vq ∧ wx.cell? ⟨ba, oa + t * 7 + 3, none⟩ = some (.int .i64 x.ts) ∧ wx.cell? ⟨ba, oa + t * 7 + 4, none⟩ = some (.int .i64 x.seq) ∧ wx.cell? ⟨ba, oa + t * 7 + 5, none⟩ = some (.int .i64 x.kind) ∧ wx.cell? ⟨ba, oa + t * 7 + 6, none⟩ = some x.vv) ∧ (wx.cell? ⟨bb, ob + t * 7, none⟩ = some y.vr ∧ wx.cell? ⟨bb, ob + t * 7 + 1, none⟩ = some (.int .i64 y.fam) ∧ wx.cell? ⟨bb, ob + t * 7 + 2, none⟩ = some y.vq ∧ wx.cell? ⟨bb, ob + t * 7 + 3, none⟩ = some (.int .i64 y.ts) ∧ wx.cell? ⟨bb, ob + t * 7 + 4, none⟩ = some (.int .i64 y.seq) ∧ wx.cell? ⟨bb, ob + t * 7 + 5, none⟩ = some (.int .i64 y.kind) ∧ wx.cell? ⟨bb, ob + t * 7 + 6, none⟩ = some y.vv)) := fun wx b => by
        have k := (HBK.out.trans (b.mono HBK.out.size))
        have c1 := HA.out.cells k hx
        have c2 := HB.out.cells k hy
        exact ⟨⟨c1 0 _ rfl, c1 1 _ rfl, c1 2 _ rfl, c1 3 _ rfl, c1 4 _ rfl, c1 5 _ rfl, c1 6 _ rfl⟩, ⟨c2 0 _ rfl, c2 1 _ rfl, c2 2 _ rfl, c2 3 _ rfl, c2 4 _ rfl, c2 5 _ rfl, c2 6 _ rfl⟩⟩
      have HSe : Hid (∀ Z, Below wr.heap.size wr Z → Calls Tryz.prog 45 #[.agg #[x.vr, .int .i64 x.fam, x.vq, .int .i64 x.ts, .int .i64 x.seq, .int .i64 x.kind, x.vv], .agg #[y.vr, .int .i64 y.fam, y.vq, .int .i64 y.ts, .int .i64 y.seq, .int .i64 y.kind, y.vv]] Z fun r w' => r = .returned (.bool true) ∧ Below Z.heap.size Z w') := fun Z hZ => by
        have k := (HBK.out.trans (hZ.mono HBK.out.size))
        refine (same3r_any ((HA.out.later k).ok x (List.mem_of_getElem? hx)) ((HB.out.later k).ok y (List.mem_of_getElem? hy))).mono ?_
        rintro r w' ⟨rfl, hb⟩
        exact ⟨by rw [decide_eq_true hxy], hb⟩
      have D0 : Below wr.heap.size wr wr.drew := (Below.refl _ _).drew
      clear hx hy hxy hbk
      go_wp2_with fail
      go_region_held3 (fun wx => (wx.cell? ⟨ba, oa + t * 7, none⟩ = some x.vr ∧ wx.cell? ⟨ba, oa + t * 7 + 1, none⟩ = some (.int .i64 x.fam) ∧ wx.cell? ⟨ba, oa + t * 7 + 2, none⟩ = some x.vq ∧ wx.cell? ⟨ba, oa + t * 7 + 3, none⟩ = some (.int .i64 x.ts) ∧ wx.cell? ⟨ba, oa + t * 7 + 4, none⟩ = some (.int .i64 x.seq) ∧ wx.cell? ⟨ba, oa + t * 7 + 5, none⟩ = some (.int .i64 x.kind) ∧ wx.cell? ⟨ba, oa + t * 7 + 6, none⟩ = some x.vv) ∧ (wx.cell? ⟨bb, ob + t * 7, none⟩ = some y.vr ∧ wx.cell? ⟨bb, ob + t * 7 + 1, none⟩ = some (.int .i64 y.fam) ∧ wx.cell? ⟨bb, ob + t * 7 + 2, none⟩ = some y.vq ∧ wx.cell? ⟨bb, ob + t * 7 + 3, none⟩ = some (.int .i64 y.ts) ∧ wx.cell? ⟨bb, ob + t * 7 + 4, none⟩ = some (.int .i64 y.seq) ∧ wx.cell? ⟨bb, ob + t * 7 + 5, none⟩ = some (.int .i64 y.kind) ∧ wx.cell? ⟨bb, ob + t * 7 + 6, none⟩ = some y.vv)) (first | exact KS.out _ D1 | exact KS.out _ D0) ((go_at_call 45; refine Calls.mono (HSe.out _ D0) ?_; rintro e1 w1 ⟨rfl, hb1⟩; have D1 := D0.trans (hb1.mono D0.size)))
      go_wp2
      go_roundw
      case rel => exact ⟨t + 1, by omega, by go_num, HBK.out.trans (D1.mono HBK.out.size)⟩
      case measure => simp [intOf]; omega
    · have h1' : (n : Int) ≤ (t : Int) := by omega
      go_wp2
      go_ret
      exact ⟨rfl, hbk⟩
end Go.Proofs.YtganmnckdmkcbaaGreat

namespace Go.Proofs.YtganmnckdmkcbaaGreat
open Go.RowKit
set_option linter.unusedVariables false

def oneD (vr vq vv : Value) (k ts seq : Int) (val : List Nat) : EntD := ⟨vr, 0, vq, ts, seq, k, vv, [114], [113], val⟩
theorem heap_old9 {w : World} (o : Obj) {k : Nat} {x : Obj} (h : w.heap[k]? = some x) : (w.alloc o).heap[k]? = some x := by
  rw [Below.heap_alloc w o k (Array.getElem?_eq_some_iff.1 h).1]
  exact h
theorem heap_new9 (w : World) (o : Obj) {k : Nat} (h : k = w.heap.size) : (w.alloc o).heap[k]? = some o := by
  subst h
  show (w.heap.push o)[w.heap.size]? = some o
  simp
theorem five5 (w : World) (a b c d e : Obj) : ∃ X, X = ((((w.alloc a).alloc b).alloc c).alloc d).alloc e ∧ X.heap[w.heap.size]? = some a ∧ X.heap[w.heap.size + 1]? = some b ∧ X.heap[w.heap.size + 2]? = some c ∧ X.heap[w.heap.size + 4]? = some e ∧ Below w.heap.size w X := by
  have A1 := (Below.refl w.heap.size w).alloc (Nat.le_refl _) a
  have A2 := A1.alloc A1.size b
  have A3 := A2.alloc A2.size c
  have A4 := A3.alloc A3.size d
  have A5 := A4.alloc A4.size e
  exact ⟨_, rfl, heap_old9 _ (heap_old9 _ (heap_old9 _ (heap_old9 _ (heap_new9 _ _ rfl)))), heap_old9 _ (heap_old9 _ (heap_old9 _ (heap_new9 _ _ (by simp)))), heap_old9 _ (heap_old9 _ (heap_new9 _ _ (by simp))), heap_new9 _ _ (by simp), A5⟩
theorem four4 (w : World) (a b c d : Obj) : ∃ X, X = (((w.alloc a).alloc b).alloc c).alloc d ∧ X.heap[w.heap.size]? = some a ∧ X.heap[w.heap.size + 1]? = some b ∧ X.heap[w.heap.size + 2]? = some c ∧ Below w.heap.size w X := by
  have A1 := (Below.refl w.heap.size w).alloc (Nat.le_refl _) a
  have A2 := A1.alloc A1.size b
  have A3 := A2.alloc A2.size c
  have A4 := A3.alloc A3.size d
  exact ⟨_, rfl, heap_old9 _ (heap_old9 _ (heap_old9 _ (heap_new9 _ _ rfl))), heap_old9 _ (heap_old9 _ (heap_new9 _ _ (by simp))), heap_old9 _ (heap_new9 _ _ (by simp)), A4⟩
theorem rd_nil0 (w : World) : Rd w (.slice none 0 0) [] := ⟨(fun x hx => by cases hx), none, 0, rfl, Nat.le_refl _, Nat.zero_le _, Nat.zero_le _, .inl rfl, .inl rfl⟩
theorem cell_at9 {X : World} {g i : Nat} {cs : Array Value} {ty : TypeId} {fr : Nat × Nat} {u : Value} (h : X.heap[g]? = some (.cells cs ty fr)) (hu : cs[i]? = some u) : X.cell? ⟨g, i, none⟩ = some u := by simp [World.cell?, h, hu]
set_option maxRecDepth 100000 in
set_option maxHeartbeats 1000000 in
theorem one1_any (ts seq : Int) (w : World) : Calls Tryz.prog 43 #[.int .i64 1, .int .i64 ts, .int .i64 seq] w fun e w' => ∃ vr vq vv, e = .returned (.agg (oneD vr vq vv 1 ts seq [118]).cells) ∧ EntD.Ok w' (oneD vr vq vv 1 ts seq [118]) ∧ Below w.heap.size w w' := by
  have k1 := Joins.run_convert_bytes_const_at (P := Tryz.prog) (w.alloc (.cells zeroD.cells 84)) 82 5 #[.int .u8 114] 1 1 (w.heap.size + 1) (by simp) und_bytes und_byte
  have k2 := Joins.run_convert_bytes_const_at (P := Tryz.prog) ((w.alloc (.cells zeroD.cells 84)).alloc (.cells #[.int .u8 114] 5 (1, 2))) 82 5 #[.int .u8 113] 1 1 (w.heap.size + 2) (by simp) und_bytes und_byte
  have k3 := Joins.run_convert_bytes_const_at (P := Tryz.prog) ((((w.alloc (.cells zeroD.cells 84)).alloc (.cells #[.int .u8 114] 5 (1, 2))).alloc (.cells #[.int .u8 113] 5 (1, 2))).alloc (.cells (oneD (.slice (some ⟨w.heap.size + 1, 0, none⟩) 1 1) (.slice (some ⟨w.heap.size + 2, 0, none⟩) 1 1) (.slice none 0 0) 1 ts seq []).cells 84)) 82 5 #[.int .u8 118] 1 1 (w.heap.size + 4) (by simp) und_bytes und_byte
  simp only [zeroD, oneD, EntD.cells, List.size_toArray, List.length_cons, List.length_nil, Nat.zero_add] at k1 k2 k3
  have HF := Lib.hid (five5 w (.cells (oneD (.slice (some ⟨w.heap.size + 1, 0, none⟩) 1 1) (.slice (some ⟨w.heap.size + 2, 0, none⟩) 1 1) (.slice (some ⟨w.heap.size + 4, 0, none⟩) 1 1) 1 ts seq [118]).cells 84) (.cells #[.int .u8 114] 5 (1, 2)) (.cells #[.int .u8 113] 5 (1, 2)) (.cells (oneD (.slice (some ⟨w.heap.size + 1, 0, none⟩) 1 1) (.slice (some ⟨w.heap.size + 2, 0, none⟩) 1 1) (.slice (some ⟨w.heap.size + 4, 0, none⟩) 1 1) 1 ts seq [118]).cells 84) (.cells #[.int .u8 118] 5 (1, 2)))
  simp only [oneD, EntD.cells] at HF
  go_enter Tryz.func43, Tryz.ntmps43
  go_wp2
  clear k1 k2 k3
  obtain ⟨X, hX, h0, h1, h2, h4, bel⟩ := HF.out
  clear HF
  rw [← hX]
  have y0 := cell_at9 (i := 0) h0 rfl
  have y1 := cell_at9 (i := 1) h0 rfl
  have y2 := cell_at9 (i := 2) h0 rfl
  have y3 := cell_at9 (i := 3) h0 rfl
  have y4 := cell_at9 (i := 4) h0 rfl
  have y5 := cell_at9 (i := 5) h0 rfl
  have y6 := cell_at9 (i := 6) h0 rfl
  refine bodyPost_ret (v := .agg (oneD (.slice (some ⟨w.heap.size + 1, 0, none⟩) 1 1) (.slice (some ⟨w.heap.size + 2, 0, none⟩) 1 1) (.slice (some ⟨w.heap.size + 4, 0, none⟩) 1 1) 1 ts seq [118]).cells) (by simp [results, Tryz.results43, go_sem, y0, y1, y2, y3, y4, y5, y6, oneD, EntD.cells]) rfl ?_
  exact ⟨_, _, _, rfl, ⟨rd_one (cell_at9 (i := 0) h1 rfl) (by decide), rd_one (cell_at9 (i := 0) h2 rfl) (by decide), rd_one (cell_at9 (i := 0) h4 rfl) (by decide)⟩, bel⟩
set_option maxRecDepth 100000 in
set_option maxHeartbeats 1000000 in
theorem one2_any (ts seq : Int) (w : World) : Calls Tryz.prog 43 #[.int .i64 2, .int .i64 ts, .int .i64 seq] w fun e w' => ∃ vr vq vv, e = .returned (.agg (oneD vr vq vv 2 ts seq []).cells) ∧ EntD.Ok w' (oneD vr vq vv 2 ts seq []) ∧ Below w.heap.size w w' := by
  have k1 := Joins.run_convert_bytes_const_at (P := Tryz.prog) (w.alloc (.cells zeroD.cells 84)) 82 5 #[.int .u8 114] 1 1 (w.heap.size + 1) (by simp) und_bytes und_byte
  have k2 := Joins.run_convert_bytes_const_at (P := Tryz.prog) ((w.alloc (.cells zeroD.cells 84)).alloc (.cells #[.int .u8 114] 5 (1, 2))) 82 5 #[.int .u8 113] 1 1 (w.heap.size + 2) (by simp) und_bytes und_byte
  simp only [zeroD, EntD.cells, List.size_toArray, List.length_cons, List.length_nil, Nat.zero_add] at k1 k2
  have HF := Lib.hid (four4 w (.cells (oneD (.slice (some ⟨w.heap.size + 1, 0, none⟩) 1 1) (.slice (some ⟨w.heap.size + 2, 0, none⟩) 1 1) (.slice none 0 0) 2 ts seq []).cells 84) (.cells #[.int .u8 114] 5 (1, 2)) (.cells #[.int .u8 113] 5 (1, 2)) (.cells (oneD (.slice (some ⟨w.heap.size + 1, 0, none⟩) 1 1) (.slice (some ⟨w.heap.size + 2, 0, none⟩) 1 1) (.slice none 0 0) 2 ts seq []).cells 84))
  simp only [oneD, EntD.cells] at HF
  go_enter Tryz.func43, Tryz.ntmps43
  go_wp2
  clear k1 k2
  obtain ⟨X, hX, h0, h1, h2, bel⟩ := HF.out
  clear HF
  rw [← hX]
  have y0 := cell_at9 (i := 0) h0 rfl
  have y1 := cell_at9 (i := 1) h0 rfl
  have y2 := cell_at9 (i := 2) h0 rfl
  have y3 := cell_at9 (i := 3) h0 rfl
  have y4 := cell_at9 (i := 4) h0 rfl
  have y5 := cell_at9 (i := 5) h0 rfl
  have y6 := cell_at9 (i := 6) h0 rfl
  refine bodyPost_ret (v := .agg (oneD (.slice (some ⟨w.heap.size + 1, 0, none⟩) 1 1) (.slice (some ⟨w.heap.size + 2, 0, none⟩) 1 1) (.slice none 0 0) 2 ts seq []).cells) (by simp [results, Tryz.results43, go_sem, y0, y1, y2, y3, y4, y5, y6, oneD, EntD.cells]) rfl ?_
  exact ⟨_, _, _, rfl, ⟨rd_one (cell_at9 (i := 0) h1 rfl) (by decide), rd_one (cell_at9 (i := 0) h2 rfl) (by decide), rd_nil0 _⟩, bel⟩
set_option maxRecDepth 100000 in
set_option maxHeartbeats 1000000 in
theorem one3_any (ts seq : Int) (w : World) : Calls Tryz.prog 43 #[.int .i64 3, .int .i64 ts, .int .i64 seq] w fun e w' => ∃ vr vq vv, e = .returned (.agg (oneD vr vq vv 3 ts seq []).cells) ∧ EntD.Ok w' (oneD vr vq vv 3 ts seq []) ∧ Below w.heap.size w w' := by
  have k1 := Joins.run_convert_bytes_const_at (P := Tryz.prog) (w.alloc (.cells zeroD.cells 84)) 82 5 #[.int .u8 114] 1 1 (w.heap.size + 1) (by simp) und_bytes und_byte
  have k2 := Joins.run_convert_bytes_const_at (P := Tryz.prog) ((w.alloc (.cells zeroD.cells 84)).alloc (.cells #[.int .u8 114] 5 (1, 2))) 82 5 #[.int .u8 113] 1 1 (w.heap.size + 2) (by simp) und_bytes und_byte
  simp only [zeroD, EntD.cells, List.size_toArray, List.length_cons, List.length_nil, Nat.zero_add] at k1 k2
  have HF := Lib.hid (four4 w (.cells (oneD (.slice (some ⟨w.heap.size + 1, 0, none⟩) 1 1) (.slice (some ⟨w.heap.size + 2, 0, none⟩) 1 1) (.slice none 0 0) 3 ts seq []).cells 84) (.cells #[.int .u8 114] 5 (1, 2)) (.cells #[.int .u8 113] 5 (1, 2)) (.cells (oneD (.slice (some ⟨w.heap.size + 1, 0, none⟩) 1 1) (.slice (some ⟨w.heap.size + 2, 0, none⟩) 1 1) (.slice none 0 0) 3 ts seq []).cells 84))
  simp only [oneD, EntD.cells] at HF
  go_enter Tryz.func43, Tryz.ntmps43
  go_wp2
  clear k1 k2
  obtain ⟨X, hX, h0, h1, h2, bel⟩ := HF.out
  clear HF
  rw [← hX]
  have y0 := cell_at9 (i := 0) h0 rfl
  have y1 := cell_at9 (i := 1) h0 rfl
  have y2 := cell_at9 (i := 2) h0 rfl
  have y3 := cell_at9 (i := 3) h0 rfl
  have y4 := cell_at9 (i := 4) h0 rfl
  have y5 := cell_at9 (i := 5) h0 rfl
  have y6 := cell_at9 (i := 6) h0 rfl
  refine bodyPost_ret (v := .agg (oneD (.slice (some ⟨w.heap.size + 1, 0, none⟩) 1 1) (.slice (some ⟨w.heap.size + 2, 0, none⟩) 1 1) (.slice none 0 0) 3 ts seq []).cells) (by simp [results, Tryz.results43, go_sem, y0, y1, y2, y3, y4, y5, y6, oneD, EntD.cells]) rfl ?_
  exact ⟨_, _, _, rfl, ⟨rd_one (cell_at9 (i := 0) h1 rfl) (by decide), rd_one (cell_at9 (i := 0) h2 rfl) (by decide), rd_nil0 _⟩, bel⟩
def famF (mx tl : Int) : FamD := ⟨⟨#[102]⟩, mx, tl⟩
theorem two2 (w : World) (a b : Obj) : ∃ X, X = (w.alloc a).alloc b ∧ X.heap[w.heap.size]? = some a ∧ X.heap[w.heap.size + 1]? = some b ∧ Below w.heap.size w X := by
  have A1 := (Below.refl w.heap.size w).alloc (Nat.le_refl _) a
  have A2 := A1.alloc A1.size b
  exact ⟨_, rfl, heap_old9 _ (heap_new9 _ _ rfl), heap_new9 _ _ (by simp), A2⟩
set_option maxRecDepth 100000 in
set_option maxHeartbeats 1000000 in
theorem family3_any (mx tl : Int) (w : World) : Calls Tryz.prog 44 #[.int .i64 mx, .int .i64 tl] w fun e w' => ∃ b, e = .returned (.agg #[.slice (some ⟨b, 0, none⟩) 1 1]) ∧ RdF w' (.slice (some ⟨b, 0, none⟩) 1 1) [famF mx tl] ∧ Below w.heap.size w w' := by
  have HF := Lib.hid (two2 w (.cells #[.slice (some ⟨w.heap.size + 1, 0, none⟩) 1 1] 27) (.cells #[.string ⟨#[102]⟩, .int .i64 mx, .int .i64 tl] 132))
  go_enter Tryz.func44, Tryz.ntmps44
  go_wp2
  obtain ⟨X, hX, h0, h1, bel⟩ := HF.out
  clear HF
  rw [← hX]
  have y0 := cell_at9 (i := 0) h0 rfl
  refine bodyPost_ret (v := .agg #[.slice (some ⟨w.heap.size + 1, 0, none⟩) 1 1]) (by simp [results, Tryz.results44, go_sem, y0]) rfl ?_
  refine ⟨_, rfl, ⟨_, 1, rfl, Nat.le_refl _, by decide, by simp, .inr ⟨_, 0, rfl, fun i f hf => ?_⟩⟩, bel⟩
  cases i with
  | zero =>
    simp only [List.getElem?_cons_zero, Option.some.injEq] at hf
    subst hf
    exact ⟨cell_at9 (i := 0) h1 rfl, cell_at9 (i := 1) h1 rfl, cell_at9 (i := 2) h1 rfl⟩
  | succ i => simp at hf
end Go.Proofs.YtganmnckdmkcbaaGreat
