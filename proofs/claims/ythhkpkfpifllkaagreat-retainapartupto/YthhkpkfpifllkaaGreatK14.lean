import Derived.Test.YthhkpkfpifllkaaGreatK13
import Derived.Deep.CutRange
import Derived.Deep.DeepAppendRoom
namespace Go.Proofs.YthhkpkfpifllkaaGreat
open Go.ChangeShapes Go.WideShapes Go.ChangeAt Go.RowKit
set_option linter.unusedVariables false

theorem und_ents : Tryz.prog.underlying 28 = some (.slice 84) := by kernel_rfl
def RdE3 (W : World) (v : Value) (xs : List EntD) : Prop := ∃ a c, v = .slice a xs.length c ∧ RdL3 W a c xs ∧ xs.length ≤ 1353245080300

theorem weight_allE {H : Type} {e : TypeId} : ∀ {ds : List (DataW H)} (h : (DataW.weightsAll Tryz.prog e ds).all (fun x => decide (x ≤ reachBytes)) = true) {d : DataW H} (hd : d ∈ ds), (d.weights Tryz.prog e).all (fun x => decide (x ≤ reachBytes)) = true
  | [], _, _, hd => by cases hd
  | x :: ds, h, d, hd => by
    simp only [DataW.weightsAll, List.all_append, Bool.and_eq_true] at h
    rcases List.mem_cons.1 hd with rfl | hd
    · exact h.1
    · exact weight_allE h.2 hd

end Go.Proofs.YthhkpkfpifllkaaGreat

namespace Go.Proofs.YthhkpkfpifllkaaGreat
open Go.RowKit
set_option linter.unusedVariables false

section
variable {W : World} {cap fc : Nat} {a fa : Option Addr} {fs : List FamD} {l : List EntD}
def visE (C : Nat) (fs : List FamD) (clock : Int) (l : List EntD) : Int := readE C fs clock 1099511627776 16 l
end
end Go.Proofs.YthhkpkfpifllkaaGreat

namespace Go.Proofs.YthhkpkfpifllkaaGreat
open Go.RowKit
set_option linter.unusedVariables false

section
variable {fs : List (Int × Int)} {clock low : Int} {m : List En}
theorem five_stays {x : En} (h : (sv fs clock m x).fate = 5) (major : Bool) : staysS major low (sv fs clock m x) = true := by unfold staysS; rw [if_pos h]
theorem five_kd {x : En} (h3 : x.kind ≤ 3) (h : (sv fs clock m x).fate = 5) : kd m x ≠ 3 ∧ (tld m x).kind = kd m x := by
  have s := stays_ver h3 (five_stays (low := 0) h true)
  refine ⟨fun k => ?_, by rw [tld_ver h3 s.1]⟩
  rw [sv_ver h3 s.1 s.2.1 s.2.2.1, if_pos k] at h
  cases h
theorem mark_seven {x : En} (h4 : 4 ≤ x.kind) : (sv fs clock m x).fate ≠ 5 := by
  rw [sv_mark h4]
  split <;> simp
end
end Go.Proofs.YthhkpkfpifllkaaGreat

namespace Go.Proofs.YthhkpkfpifllkaaGreat
open Go.RowKit
set_option linter.unusedVariables false

structure CF (fs : List FamD) (low : Int) (zs vs : List EntD) (x : EntD) : Prop where
  f0 : 0 ≤ x.fam
  fK : x.fam < fs.length
  k1 : 1 ≤ x.kind
  k5 : x.kind ≤ 5
  k3 : x.kind ≠ 3
  v2 : x.kind = 2 → x.val = []
  t4 : 4 ≤ x.kind → low < x.ts
  put : x.kind = 1 → ∃ y ∈ vs, hit y.dat x.dat
  col : ((zs.filter fun y => decide (y.kind ≤ 2) && mates y.dat x.dat).length : Int) ≤ (famAt (mt fs) x.fam).1
end Go.Proofs.YthhkpkfpifllkaaGreat

namespace Go.Proofs.YthhkpkfpifllkaaGreat
open Go.RowKit
set_option linter.unusedVariables false

def hk (x : En) : En := if x.kind = 3 then { x with kind := 2 } else x
theorem hk_eq (x : En) : (hk x).row = x.row ∧ (hk x).fam = x.fam ∧ (hk x).qual = x.qual ∧ (hk x).ts = x.ts ∧ (hk x).seq = x.seq ∧ (hk x).val = x.val ∧ (x.kind = 3 ∧ (hk x).kind = 2 ∨ x.kind ≠ 3 ∧ (hk x).kind = x.kind) := by
  unfold hk
  split
  · rename_i h; exact ⟨rfl, rfl, rfl, rfl, rfl, rfl, .inl ⟨h, rfl⟩⟩
  · rename_i h; exact ⟨rfl, rfl, rfl, rfl, rfl, rfl, .inr ⟨h, rfl⟩⟩
theorem gpE_self {x : En} (h : x.kind ≤ 3) : gpE x x = true := gpE_iff.2 ⟨h, h, rfl, rfl, rfl, rfl⟩
section
variable {fs : List (Int × Int)} {clock : Int}
theorem kd_put {m : List En} {x : En} (hx : x ∈ m) (h3 : x.kind ≤ 3) : kd m x ≠ 3 ↔ hasPut m x = true := by
  unfold kd
  by_cases k : x.kind = 3
  · cases h : hasPut m x with
    | true => simp [k]
    | false => simp [k]
  · have : hasPut m x = true := hasPut_iff.2 ⟨x, hx, gpE_self h3, k⟩
    simp [k, this]
theorem kd_hk {m : List En} {x : En} (hp : hasPut m x = true) : { x with kind := kd m x } = hk x := by
  unfold kd hk
  by_cases k : x.kind = 3
  · simp [k, hp]
  · simp [k]
theorem tld_hk {m : List En} {x : En} (h3 : x.kind ≤ 3) (hd : decidesS m x = true) (hp : hasPut m x = true) : tld m x = hk x := by
  rw [tld_ver h3 hd, kd_hk hp]
theorem five_iff {m : List En} {x : En} (hx : x ∈ m) : (sv fs clock m x).fate = 5 ↔ x.kind ≤ 3 ∧ decidesS m x = true ∧ hasPut m x = true ∧ maskOf m x < x.ts ∧ expS fs clock x = false ∧ above fs clock m x + 1 ≤ (famAt fs x.fam).1 := by
  constructor
  · intro h
    have h3 : x.kind ≤ 3 := by
      by_cases k : x.kind ≤ 3
      · exact k
      · exact absurd h (mark_seven (by omega))
    have st := stays_ver h3 (five_stays (low := 0) h true)
    have k3 := (five_kd h3 h).1
    exact ⟨h3, st.1, (kd_put hx h3).1 k3, st.2.1, st.2.2.1, st.2.2.2 k3⟩
  · rintro ⟨h3, hd, hp, hm, he, ha⟩
    rw [sv_ver h3 hd hm he, if_neg ((kd_put hx h3).2 hp), if_neg (by omega)]
theorem counts_put {m : List En} {x : En} (hx : x ∈ m) : counts fs clock m x = true ↔ x.kind ≤ 3 ∧ decidesS m x = true ∧ hasPut m x = true ∧ maskOf m x < x.ts ∧ expS fs clock x = false := by
  rw [counts_iff]
  constructor
  · rintro ⟨h3, hd, k, r⟩; exact ⟨h3, hd, (kd_put hx h3).1 k, r⟩
  · rintro ⟨h3, hd, k, r⟩; exact ⟨h3, hd, (kd_put hx h3).2 k, r⟩
def Gp (m : List En) (x : En) (t : Int) : Prop := ∃ y ∈ m, y.kind ≤ 2 ∧ mates y x = true ∧ y.ts = t
def ups (fs : List (Int × Int)) (clock : Int) (m : List En) (x : En) : List Int := (m.filter fun y => counts fs clock m y && mates y x && decide (x.ts < y.ts)).map En.ts
def Full (fs : List (Int × Int)) (r : List En) (x : En) : Prop := ∃ ts : List Int, ts.Nodup ∧ (famAt fs x.fam).1 ≤ (ts.length : Int) ∧ ∀ t ∈ ts, x.ts < t ∧ Gp r x t
structure Wk5 (fs : List (Int × Int)) (clock : Int) (m r : List En) : Prop where
  frm : ∀ y ∈ r, y.kind ≤ 3 → ∃ x ∈ m, gpE x y = true ∧ (y.kind ≤ 2 → hasPut m x = true)
  mask : ∀ x, maskOf r x ≤ maskOf m x
  maskb : ∀ y ∈ r, y.kind ≤ 3 → maskOf r y < y.ts → maskOf m y < y.ts
  alt : ∀ x ∈ m, x.kind ≤ 3 → decidesS m x = true → hasPut m x = true → maskOf m x < x.ts → expS fs clock x = false → (∃ y ∈ r, hk y = hk x ∧ y.kind ≤ 3 ∧ decidesS r y = true ∧ hasPut r y = true) ∨ Full fs r x
def fiveL (fs : List (Int × Int)) (clock : Int) (m : List En) : List En := (m.filter fun x => decide ((sv fs clock m x).fate = 5)).map (tld m)
theorem five_mem {m : List En} {e : En} : e ∈ fiveL fs clock m ↔ ∃ x ∈ m, (x.kind ≤ 3 ∧ decidesS m x = true ∧ hasPut m x = true ∧ maskOf m x < x.ts ∧ expS fs clock x = false ∧ above fs clock m x + 1 ≤ (famAt fs x.fam).1) ∧ hk x = e := by
  unfold fiveL
  rw [List.mem_map]
  constructor
  · rintro ⟨x, hx, rfl⟩
    obtain ⟨xm, hx⟩ := List.mem_filter.1 hx
    have h := (five_iff xm).1 (of_decide_eq_true hx)
    exact ⟨x, xm, h, (tld_hk h.1 h.2.1 h.2.2.1).symm⟩
  · rintro ⟨x, xm, h, rfl⟩
    exact ⟨x, List.mem_filter.2 ⟨xm, decide_eq_true ((five_iff xm).2 h)⟩, tld_hk h.1 h.2.1 h.2.2.1⟩
end
end Go.Proofs.YthhkpkfpifllkaaGreat

namespace Go.Proofs.YthhkpkfpifllkaaGreat
open Go.RowKit
set_option linter.unusedVariables false

section
variable {fs : List (Int × Int)} {clock : Int}
structure Red (fs : List (Int × Int)) (clock : Int) (m r : List En) : Prop where
  frm : ∀ y ∈ r, y.kind ≤ 3 → ∃ x ∈ m, gpE x y = true ∧ x.seq = y.seq ∧ (y.kind ≤ 2 → hasPut m x = true)
  marks : ∀ y ∈ r, 4 ≤ y.kind → y ∈ m
  top : ∀ x ∈ m, 4 ≤ x.kind → shadow m x = false → x ∈ r
  alt : ∀ x ∈ m, x.kind ≤ 3 → decidesS m x = true → maskOf m x < x.ts → expS fs clock x = false → (∃ y ∈ r, hk y = hk x ∧ y.kind ≤ 3 ∧ (hasPut m x = true → hasPut r y = true)) ∨ Full fs r x
end
end Go.Proofs.YthhkpkfpifllkaaGreat

namespace Go.Proofs.YthhkpkfpifllkaaGreat
open Go.RowKit
set_option linter.unusedVariables false

section
variable {fs : List (Int × Int)} {clock : Int}
def rankIn (E : List En) (e : En) : Int := ((E.filter fun y => mates y e && decide (e.ts < y.ts)).length : Int) + 1
def isFive (v : Vd) : Bool := decide (v.fate = 5)
theorem sv_five {m : List En} {x : En} (hx : x ∈ m) (h : (sv fs clock m x).fate = 5) : sv fs clock m x = ⟨tld m x, 5, above fs clock m x + 1⟩ := by
  obtain ⟨h3, hd, hp, hm, he, ha⟩ := (five_iff hx).1 h
  rw [sv_ver h3 hd hm he, if_neg ((kd_put hx h3).2 hp), if_neg (by omega), tld_ver h3 hd]
theorem five_above {m : List En} (hs : m.Pairwise Ah) {x : En} (hx : x ∈ m) (h : (sv fs clock m x).fate = 5) : above fs clock m x + 1 = rankIn (fiveL fs clock m) (tld m x) := by
  obtain ⟨h3, hd, hp, hm, he, ha⟩ := (five_iff hx).1 h
  obtain ⟨a1, a2, a3, a4, a5, a6, a7⟩ := tld_eq m x
  unfold rankIn fiveL above
  rw [List.filter_map, List.length_map, List.filter_filter]
  congr 3
  apply List.filter_congr
  intro y hy
  obtain ⟨b1, b2, b3, b4, b5, b6, b7⟩ := tld_eq m y
  have em : mates (tld m y) (tld m x) = mates y x := by simp only [mates, a1, a2, a3, b1, b2, b3]
  simp only [Function.comp, em, a4, b4]
  rw [Bool.eq_iff_iff]
  simp only [Bool.and_eq_true, decide_eq_true_eq]
  constructor
  · rintro ⟨⟨c, M⟩, t⟩
    have cc := (counts_put hy).1 c
    have := above_le (fs := fs) (clock := clock) (m := m) M t
    have f := (mates_iff.1 M).2.1
    exact ⟨⟨M, t⟩, (five_iff hy).2 ⟨cc.1, cc.2.1, cc.2.2.1, cc.2.2.2.1, cc.2.2.2.2, by rw [f]; omega⟩⟩
  · rintro ⟨⟨M, t⟩, c⟩
    have cc := (five_iff hy).1 c
    exact ⟨⟨(counts_put hy).2 ⟨cc.1, cc.2.1, cc.2.2.1, cc.2.2.2.1, cc.2.2.2.2.1⟩, M⟩, t⟩
theorem five_vd {m : List En} (hs : m.Pairwise Ah) (hv : ∀ e ∈ m, Va e) : (verdictsS fs clock m).filter isFive = (fiveL fs clock m).map fun e => ⟨e, 5, rankIn (fiveL fs clock m) e⟩ := by
  have e1 : ∀ l : List Vd, l.filter isFive = (l.filter kept).filter isFive := fun l => by
    rw [List.filter_filter]
    apply List.filter_congr
    intro v _
    cases h : isFive v with
    | false => rfl
    | true =>
      have : kept v = true := by
        unfold isFive at h
        unfold kept
        simp only [decide_eq_true_eq] at h ⊢
        omega
      rw [this]; rfl
  rw [e1, verdicts_spec hs hv, ← e1, List.filter_map]
  conv => rhs; rw [fiveL]
  rw [List.map_map]
  have : (fun x => decide ((sv fs clock m x).fate = 5)) = isFive ∘ sv fs clock m := rfl
  rw [this]
  apply List.map_congr_left
  intro x hx
  obtain ⟨xm, hx⟩ := List.mem_filter.1 hx
  have h5 : (sv fs clock m x).fate = 5 := of_decide_eq_true hx
  rw [sv_five xm h5, five_above hs xm h5]
  rfl
theorem five_sorted {m : List En} (hs : m.Pairwise Ah) : (fiveL fs clock m).Pairwise Ah := tld_sorted hs _
theorem show_filter (tm n : Int) : ∀ (vs : List Vd) (s : Int × List En), (∀ v ∈ vs, v.rank = 1 → v.fate = 5) → (vs.filter isFive).foldl (showStep tm n) s = vs.foldl (showStep tm n) s
  | [], s, _ => rfl
  | v :: vs, s, h => by
    have ih := fun s => show_filter tm n vs s (fun v hv => h v (List.mem_cons_of_mem _ hv))
    by_cases h5 : v.fate = 5
    · have : isFive v = true := by unfold isFive; simp [h5]
      rw [List.filter_cons_of_pos this, List.foldl_cons, List.foldl_cons, ih]
    · have : ¬ isFive v = true := by unfold isFive; simp [h5]
      rw [List.filter_cons_of_neg this, List.foldl_cons, ih]
      have hr : v.rank ≠ 1 := fun z => h5 (h v List.mem_cons_self z)
      congr 1
      unfold showStep
      rw [if_neg (fun z => h5 z.1), if_neg hr]
theorem dec_rank {s : Sp} {e : En} (h : 0 < (decideS fs clock s e).1.rank) : (decideS fs clock s e).1.fate ≠ 1 := by
  unfold decideS at h ⊢
  repeat' split
  all_goals simp
theorem sv_rank {m : List En} {x : En} (hx : x ∈ m) (h : 0 < (sv fs clock m x).rank) : counts fs clock m x = true := by
  unfold sv at h
  by_cases k : 4 ≤ x.kind
  · rw [if_pos k] at h; simp at h
  · rw [if_neg k] at h
    cases hd : decidesS m x with
    | false => rw [hd] at h; simp at h
    | true =>
      rw [hd, if_pos rfl] at h
      unfold decideS at h
      simp only at h
      by_cases h1 : x.ts ≤ maskOf m x
      · rw [if_pos h1] at h; simp at h
      · rw [if_neg h1] at h
        by_cases h2 : 0 < (famAt fs x.fam).2 ∧ x.ts + (famAt fs x.fam).2 ≤ clock
        · rw [if_pos h2] at h; simp at h
        · rw [if_neg h2] at h
          by_cases h3 : kd m x = 3
          · rw [if_pos h3] at h; simp at h
          · exact counts_iff.2 ⟨by omega, hd, h3, by omega, by simpa [expS] using h2⟩
theorem verd_rank (l : List En) : ∀ v ∈ verdictsS fs clock l, 0 < v.rank → v.fate ≠ 1 := by
  have res : ∀ (s : Sp) (k : Int), ∀ v ∈ (resolveS fs clock s k).1, 0 < v.rank → v.fate ≠ 1 := by
    intro s k
    unfold resolveS
    split
    · intro v hv
      rw [List.mem_singleton] at hv
      rw [hv]
      exact dec_rank
    · intro v hv; cases hv
  have ent : ∀ (s : Sp) (e : En), ∀ v ∈ (enterS fs clock s e).1, 0 < v.rank → v.fate ≠ 1 := by
    intro s e
    unfold enterS
    split
    · intro v hv; cases hv
    · exact res s 3
  have step : ∀ (s : Sp) (e : En), ∀ v ∈ (stepS fs clock s e).1, 0 < v.rank → v.fate ≠ 1 := by
    intro s e
    have h1 := ent s e
    have z : ∀ v : Vd, v.rank = 0 → 0 < v.rank → v.fate ≠ 1 := fun v h k => by omega
    unfold stepS
    intro v hv
    split at hv
    · rcases List.mem_append.1 hv with q | q
      · exact h1 v q
      · rw [List.mem_singleton] at q
        refine z v ?_
        rw [q]
        unfold stretchS
        split <;> rfl
    · split at hv
      · split at hv
        · rcases List.mem_append.1 hv with q | q
          · exact h1 v q
          · rcases List.mem_append.1 q with q | q
            · exact res _ _ v q
            · rw [List.mem_singleton] at q
              exact z v (by rw [q])
        · rcases List.mem_append.1 hv with q | q
          · exact h1 v q
          · rw [List.mem_singleton] at q
            exact z v (by rw [q])
      · split at hv
        · exact h1 v hv
        · rcases List.mem_append.1 hv with q | q
          · exact h1 v q
          · rw [List.mem_singleton] at q
            rw [q]
            exact dec_rank
  have walk : ∀ (l : List En) (s : Sp), ∀ v ∈ (walkS fs clock s l).1, 0 < v.rank → v.fate ≠ 1 := by
    intro l
    induction l with
    | nil => intro s v hv; cases hv
    | cons e l ih =>
      intro s v hv
      rcases List.mem_append.1 hv with q | q
      · exact step s e v q
      · exact ih _ v q
  intro v hv
  rcases List.mem_append.1 hv with q | q
  · exact walk l _ v q
  · exact res _ _ v q
theorem verd_one {m : List En} (hs : m.Pairwise Ah) (hv : ∀ e ∈ m, Va e) (hM : ∀ e ∈ m, 1 ≤ (famAt fs e.fam).1) : ∀ v ∈ verdictsS fs clock m, v.rank = 1 → v.fate = 5 := fun v hv1 r1 => by
  have : v ∈ (verdictsS fs clock m).filter kept := List.mem_filter.2 ⟨hv1, by unfold kept; simpa using verd_rank m v hv1 (by omega)⟩
  rw [verdicts_spec hs hv] at this
  obtain ⟨x, hx, rfl⟩ := List.mem_map.1 (List.mem_filter.1 this).1
  have c := (counts_put hx).1 (sv_rank (fs := fs) (clock := clock) hx (by rw [r1]; decide))
  rw [sv_ver c.1 c.2.1 c.2.2.2.1 c.2.2.2.2, if_neg ((kd_put hx c.1).2 c.2.2.1)] at r1 ⊢
  have := hM x hx
  simp only at r1 ⊢
  rw [if_neg (by omega)]
theorem show_five {m : List En} (hM : ∀ e ∈ m, 1 ≤ (famAt fs e.fam).1) (hs : m.Pairwise Ah) (hv : ∀ e ∈ m, Va e) (tm n : Int) : showS tm n (verdictsS fs clock m) = showS tm n ((fiveL fs clock m).map fun e => ⟨e, 5, rankIn (fiveL fs clock m) e⟩) := by
  rw [← five_vd hs hv]
  exact (show_filter tm n _ _ (verd_one hs hv hM)).symm
end
end Go.Proofs.YthhkpkfpifllkaaGreat

namespace Go.Proofs.YthhkpkfpifllkaaGreat
open Go.RowKit
set_option linter.unusedVariables false

section
variable {fs : List (Int × Int)} {c d : Int}
end
end Go.Proofs.YthhkpkfpifllkaaGreat

namespace Go.Proofs.YthhkpkfpifllkaaGreat
open Go.RowKit Go.Maps
set_option linter.unusedVariables false
theorem show_len (tm n : Int) : ∀ (vs : List Vd), (showS tm n vs).2.length ≤ vs.length := by
  have key : ∀ (vs : List Vd) (s : Int × List En), (vs.foldl (showStep tm n) s).2.length ≤ s.2.length + vs.length := by
    intro vs
    induction vs with
    | nil => intro s; exact Nat.le_refl _
    | cons v vs ih =>
      intro s
      rw [List.foldl_cons]
      refine Nat.le_trans (ih _) ?_
      have : (showStep tm n s v).2.length ≤ s.2.length + 1 := by
        unfold showStep
        generalize (if v.rank = 1 then (0 : Int) else s.1) = q
        split
        · simp
        · simp
      simp only [List.length_cons]
      omega
  intro vs
  have := key vs (0, [])
  rw [List.length_nil, Nat.zero_add] at this
  exact this
theorem verd_len {fs : List (Int × Int)} {clock : Int} (l : List En) : (verdictsS fs clock l).length ≤ l.length := by
  have h := (walk_len (fs := fs) (clock := clock) l).1
  unfold verdictsS
  rw [List.length_append, resolve_len]
  omega
theorem famAt_one {fs : List FamD} (h : SchemaOk fs) {i : Int} (h0 : 0 ≤ i) (hk : i < fs.length) : 1 ≤ (famAt (mt fs) i).1 := by
  unfold famAt mt
  rw [List.getD_eq_getElem?_getD, List.getElem?_map]
  cases hf : fs[i.toNat]? with
  | none =>
    have := List.getElem?_eq_none_iff.1 hf
    omega
  | some f => simpa using (h.2 i.toNat f hf).1.2.1.1
theorem IsOrd.max {fs : List FamD} {l m : List En} (h : IsOrd fs.length l m) (hS : SchemaOk fs) : ∀ e ∈ m, 1 ≤ (famAt (mt fs) e.fam).1 := fun e he => by
  have ck := check_zero.1 (h.ck e he)
  simp only [EntD.ofEn] at ck
  exact famAt_one hS (by have := ck.1.2.1; omega) (by have := ck.2; omega)
section
variable {W : World} {cap fc : Nat} {a fa : Option Addr} {fs : List FamD} {l : List EntD}
end
end Go.Proofs.YthhkpkfpifllkaaGreat

namespace Go.Proofs.YthhkpkfpifllkaaGreat
open Go.RowKit Go.Maps
set_option linter.unusedVariables false

end Go.Proofs.YthhkpkfpifllkaaGreat

namespace Go.Proofs.YthhkpkfpifllkaaGreat
open Go.RowKit Go.Maps
set_option linter.unusedVariables false

theorem box2 (w : World) (a b : EntD) : ∃ W, W = (w.alloc (.cells a.cells 84)).alloc (.cells b.cells 84) ∧ Below w.heap.size w W ∧ (∀ Z, Below W.heap.size W Z → EBox Z w.heap.size a ∧ EBox Z (w.heap.size + 1) b) := by
  have A1 := (Below.refl w.heap.size w).alloc (Nat.le_refl _) (.cells a.cells 84)
  refine ⟨_, rfl, A1.alloc A1.size _, fun Z k => ⟨((EBox.new w a).later ((Below.refl _ _).alloc (Nat.le_refl _) _)).later k, ?_⟩⟩
  have := EBox.new (w.alloc (.cells a.cells 84)) b
  rw [World.size_alloc] at this
  exact this.later k
end Go.Proofs.YthhkpkfpifllkaaGreat

namespace Go.Proofs.YthhkpkfpifllkaaGreat
open Go.RowKit
set_option linter.unusedVariables false

def gv (x e : En) : Bool := decide (x.kind ≤ 3) && decide (x.ts = e.ts) && mates x e
def gputs (m : List En) (e : En) : Nat := (m.filter fun x => gv x e && decide (x.kind ≠ 3)).length
structure Bst (p : List En) (e b : En) : Prop where
  at_ : b = e ∨ (b ∈ p ∧ gv b e = true)
  low : e.seq ≤ b.seq
  all : ∀ x ∈ p, gv x e = true → x.seq ≤ b.seq
def gkind (b : En) (n : Nat) : Int := if b.kind = 3 then (if 0 < n then 2 else 0) else b.kind
section
variable {fs : List (Int × Int)} {clock : Int}
def ranks (fs : List (Int × Int)) (clock : Int) (m : List En) (e x : En) : Bool := decide (x.kind ≤ 3) && decide (e.ts < x.ts) && mates x e && hasPut m x && decidesS m x && (decide (maskOf m x < x.ts) && !expS fs clock x)
def visB (fs : List (Int × Int)) (clock : Int) (m : List En) (x : En) : Bool := decide (x.kind = 1) && (decidesS m x && (decide (maskOf m x < x.ts) && !expS fs clock x) && decide (above fs clock m x + 1 ≤ (famAt fs x.fam).1))
theorem visB_five {m : List En} {x : En} (hx : x ∈ m) : visB fs clock m x = (decide (x.kind = 1) && decide ((sv fs clock m x).fate = 5)) := by
  rw [Bool.eq_iff_iff]
  unfold visB
  simp only [Bool.and_eq_true, decide_eq_true_eq, Bool.not_eq_true', five_iff hx]
  constructor
  · rintro ⟨k, ⟨d, a, b⟩, r⟩
    exact ⟨k, by omega, d, hasPut_iff.2 ⟨x, hx, gpE_self (by omega), by omega⟩, a, b, r⟩
  · rintro ⟨k, _, d, _, a, b, r⟩
    exact ⟨k, ⟨d, a, b⟩, r⟩
theorem five_put {m : List En} {x : En} (hx : x ∈ m) (h : (sv fs clock m x).fate = 5) : (tld m x).kind = 1 ↔ x.kind = 1 := by
  obtain ⟨h3, hd, hp, _⟩ := (five_iff hx).1 h
  rw [tld_hk h3 hd hp]
  have := (hk_eq x).2.2.2.2.2.2
  omega
theorem vis_five (m : List En) : m.filter (visB fs clock m) = (fiveL fs clock m).filter (fun e => decide (e.kind = 1)) := by
  unfold fiveL
  rw [List.filter_map, List.filter_filter]
  have e1 : m.filter (visB fs clock m) = m.filter fun x => ((fun e => decide (e.kind = 1)) ∘ tld m) x && decide ((sv fs clock m x).fate = 5) := by
    apply List.filter_congr
    intro x hx
    rw [visB_five hx]
    cases h : decide ((sv fs clock m x).fate = 5) with
    | false => simp
    | true =>
      have := five_put hx (of_decide_eq_true h)
      simp only [Bool.and_true, Function.comp]
      rw [Bool.eq_iff_iff, decide_eq_true_eq, decide_eq_true_eq]
      exact this.symm
  rw [e1]
  have e2 : ∀ x ∈ m.filter (fun x => ((fun e => decide (e.kind = 1)) ∘ tld m) x && decide ((sv fs clock m x).fate = 5)), tld m x = x := fun x hx => by
    obtain ⟨xm, hx⟩ := List.mem_filter.1 hx
    simp only [Bool.and_eq_true, decide_eq_true_eq, Function.comp] at hx
    obtain ⟨h3, hd, hp, _⟩ := (five_iff xm).1 hx.2
    have k := (five_put xm hx.2).1 hx.1
    rw [tld_hk h3 hd hp]
    unfold hk
    rw [if_neg (by omega)]
  conv => lhs; rw [← List.map_id (m.filter _)]
  exact List.map_congr_left (fun x hx => (e2 x hx).symm)
theorem mates_same {l e : En} (h : mates l e = true) (y : En) : mates y l = mates y e := by
  have a := mates_iff.1 h
  simp only [mates, a.1, a.2.1, a.2.2]
theorem five_dist {m : List En} (hs : m.Pairwise Ah) : ∀ x ∈ fiveL fs clock m, ∀ y ∈ fiveL fs clock m, mates x y = true → x.ts = y.ts → x = y := fun x hx y hy M t => by
  obtain ⟨a, am, ha, rfl⟩ := five_mem.1 hx
  obtain ⟨b, bm, hb, rfl⟩ := five_mem.1 hy
  obtain ⟨a1, a2, a3, a4, _⟩ := hk_eq a
  obtain ⟨b1, b2, b3, b4, _⟩ := hk_eq b
  have M := mates_iff.1 M
  have := one_decides hs am bm (gpE_iff.2 ⟨ha.1, hb.1, by rw [← a1, M.1, b1], by rw [← a2, M.2.1, b2], by rw [← a3, M.2.2, b3], by rw [← a4, t, b4]⟩) ha.2.1 hb.2.1
  rw [this]
theorem five_three {m : List En} : ∀ x ∈ fiveL fs clock m, x.kind ≤ 3 := fun x hx => by
  obtain ⟨a, am, ha, rfl⟩ := five_mem.1 hx
  have := (hk_eq a).2.2.2.2.2.2
  have := ha.1
  omega
def topR (fs : List (Int × Int)) (clock : Int) (m p : List En) : Int := p.foldl (fun t x => if (x.kind ≤ 3 ∧ hasPut m x = true ∧ maskOf m x < x.ts ∧ expS fs clock x = false) ∧ t < x.ts then x.ts else t) 0
def fateR (fs : List (Int × Int)) (clock : Int) (major : Bool) (low : Int) (m : List En) (e : En) : Option En :=
  if 4 ≤ e.kind then (if shadow m e || (major && decide (e.ts ≤ low)) then none else some e)
  else if decidesS m e = false then none
  else if e.ts ≤ maskOf m e then none
  else if expS fs clock e then none
  else if hasPut m e = false then (if major then none else some e)
  else if (famAt fs e.fam).1 < above fs clock m e + 1 then none
  else some (hk e)
end
end Go.Proofs.YthhkpkfpifllkaaGreat

namespace Go.Proofs.YthhkpkfpifllkaaGreat
open Go.RowKit Go.Maps
set_option linter.unusedVariables false

end Go.Proofs.YthhkpkfpifllkaaGreat

namespace Go.Proofs.YthhkpkfpifllkaaGreat
open Go.RowKit Go.Maps
set_option linter.unusedVariables false

structure UndE (fs : List FamD) (e : EntD) : Prop where
  f0 : 0 ≤ e.fam
  fK : e.fam < fs.length
  t1 : 1 ≤ e.ts
  t2 : e.ts ≤ 1099511627776
def inB (fs : List FamD) (clock : Int) (m : List En) (e : En) : Bool := decide (maskOf m e < e.ts) && !expS (mt fs) clock e
end Go.Proofs.YthhkpkfpifllkaaGreat

namespace Go.Proofs.YthhkpkfpifllkaaGreat
open Go.RowKit
set_option linter.unusedVariables false

def Keeps (mk : Nat) (w w' : World) : Prop := ∀ p : Addr, w.cell? p = some (.int .u8 (mk : Int)) → w'.cell? p = some (.int .u8 (mk : Int))
end Go.Proofs.YthhkpkfpifllkaaGreat

namespace Go.Proofs.YthhkpkfpifllkaaGreat
open Go.RowKit
set_option linter.unusedVariables false

def Near (w : World) (l u : Value) : Prop := u.ownBlock = l.ownBlock ∨ ∀ g, u.ownBlock = some g → w.heap.size ≤ g
def Marked (w w' : World) (l : Value) (G mk : Nat) : Prop := w.heap.size ≤ G ∧ ∀ i, i < 4 → ∃ ai ki ci, w'.cell? ⟨G, i, none⟩ = some (.slice ai ki ci) ∧ Rd w' (.slice ai ki ci) (List.replicate ki mk) ∧ Near w l (.slice ai ki ci)

def FullL (w : World) (G mk : Nat) : Prop := ∀ i, i < 4 → ∃ ai ki ci, w.cell? ⟨G, i, none⟩ = some (.slice ai ki ci) ∧ Rd w (.slice ai ki ci) (List.replicate ki mk)
end Go.Proofs.YthhkpkfpifllkaaGreat

namespace Go.Proofs.YthhkpkfpifllkaaGreat
open Go.RowKit
set_option linter.unusedVariables false

open Classical in
noncomputable def startL (r : List Nat) : List Nat := if RowOk r then ordL r else []
open Classical in
noncomputable def behindL (r : List Nat) : List Nat := if RowOk r then ordL r ++ [255] else []
open Classical in
noncomputable def rowE (r : List Nat) : Nat := if RowOk r then 0 else 20
end Go.Proofs.YthhkpkfpifllkaaGreat

namespace Go.Proofs.YthhkpkfpifllkaaGreat
open Go.RowKit
set_option linter.unusedVariables false

end Go.Proofs.YthhkpkfpifllkaaGreat

namespace Go.Proofs.YthhkpkfpifllkaaGreat
open Go.RowKit
set_option linter.unusedVariables false

end Go.Proofs.YthhkpkfpifllkaaGreat

namespace Go.Proofs.YthhkpkfpifllkaaGreat
open Go.RowKit
set_option linter.unusedVariables false

def LaidE (w : World) (B : Nat) (D : EntD) : Prop := Laid w B D.vr D.row ∧ Laid w B D.vq D.qual ∧ Laid w B D.vv D.val
def EntD.cut (e : EntD) : EntD := { e with row := e.row.take 5000, qual := e.qual.take 5000, val := e.val.take 5000 }
def EntD.Fine (e : EntD) : Prop := (Bys e.row ∧ e.row.length ≤ 5000) ∧ (Bys e.qual ∧ e.qual.length ≤ 5000) ∧ (Bys e.val ∧ e.val.length ≤ 5000)
open Classical in
noncomputable def keyA (e : EntD) : List Nat := if checkS e = 0 then keyL e else []
open Classical in
noncomputable def packA (e : EntD) : List Nat := if checkS e = 0 then packL e else []
end Go.Proofs.YthhkpkfpifllkaaGreat

namespace Go.Proofs.YthhkpkfpifllkaaGreat
open Go.RowKit
set_option linter.unusedVariables false

end Go.Proofs.YthhkpkfpifllkaaGreat

namespace Go.Proofs.YthhkpkfpifllkaaGreat
open Go.RowKit
set_option linter.unusedVariables false

end Go.Proofs.YthhkpkfpifllkaaGreat

namespace Go.Proofs.YthhkpkfpifllkaaGreat
open Go.RowKit Go.Maps
set_option linter.unusedVariables false

def pushR (k : Nat) (last : EntD) (has : Bool) (e : EntD) : Int := if check3S k e ≠ 0 then check3S k e else if has = false then 0 else if 0 < compareS last e then 30 else if ¬ EntD.Same last e ∧ (compareS last e = 0 ∨ last.seq = e.seq) then 31 else 0
theorem seq_of_zero {a b : EntD} (h : compareS a b = 0) : a.seq = b.seq := by
  have q : sameS a { b with val := a.val } = true := by
    unfold sameS
    show (decide (compareS a b = 0) && decide (a.val = a.val)) = true
    simp [h]
  exact congrArg En.seq (sameS_dat q)
end Go.Proofs.YthhkpkfpifllkaaGreat

namespace Go.Proofs.YthhkpkfpifllkaaGreat
open Go.RowKit Go.Maps
set_option linter.unusedVariables false

end Go.Proofs.YthhkpkfpifllkaaGreat

namespace Go.Proofs.YthhkpkfpifllkaaGreat
open Go.RowKit Go.Maps
set_option linter.unusedVariables false

def RdE3U (W : World) (v : Value) (xs : List EntD) : Prop := ∃ a c, v = .slice a xs.length c ∧ RdL3 W a c xs ∧ xs.length ≤ 1048576 ∧ ∀ x ∈ xs, Shrt x
end Go.Proofs.YthhkpkfpifllkaaGreat

namespace Go.Proofs.YthhkpkfpifllkaaGreat
open Go.RowKit Go.Maps
set_option linter.unusedVariables false

def selB (q : Nat → Bool) (l : List EntD) (t : Nat) : List EntD := ((List.range t).filter q).filterMap fun i => l[i]?
def uniP (ks : Nat → Int) (l : List EntD) (p : Int) : List EntD := selB (fun i => decide (ks i < p)) l l.length
def parP (ks : Nat → Int) (l : List EntD) (p : Int) : List EntD := selB (fun i => decide (ks i = p)) l l.length
structure Mn (fs : List FamD) (clock : Int) (ks : Nat → Int) (l : List EntD) (p : Int) (zs : List EntD) : Prop where
  st : ∃ mU R, IsOrd fs.length ((uniP ks l p).map EntD.dat) mU ∧ IsOrd fs.length (zs.map EntD.dat) R ∧ Red (mt fs) clock mU R
  len : zs.length ≤ (uniP ks l p).length
end Go.Proofs.YthhkpkfpifllkaaGreat

namespace Go.Proofs.YthhkpkfpifllkaaGreat
open Go.RowKit Go.Maps
set_option linter.unusedVariables false

def RdJ (w : World) (v : Value) (js : List Int) : Prop := ∃ a cap, v = .slice a js.length cap ∧ js.length ≤ cap ∧ cap ≤ maxLen ∧ (js = [] ∨ ∃ b off, a = some ⟨b, off, none⟩ ∧ ∀ (i : Nat) j, js[i]? = some j → w.cell? ⟨b, off + i, none⟩ = some (.int .i64 j)) ∧ ∀ j ∈ js, -9223372036854775808 ≤ j ∧ j ≤ 9223372036854775807
def and3 (j : Int) : Int := bits .and .i64 j 3
end Go.Proofs.YthhkpkfpifllkaaGreat

namespace Go.Proofs.YthhkpkfpifllkaaGreat
open Go.RowKit Go.Maps
set_option linter.unusedVariables false

structure Gw (w wr : World) (l : List EntD) (e bst : EntD) (t : Nat) : Prop where
  be : EBox wr w.heap.size e
  bb : EBox wr (w.heap.size + 1) bst
  best : Bst ((l.take t).map EntD.dat) e.dat bst.dat
  mem : bst = e ∨ bst ∈ l
  below : Below w.heap.size w wr
end Go.Proofs.YthhkpkfpifllkaaGreat

namespace Go.Proofs.YthhkpkfpifllkaaGreat
open Go.RowKit Go.Maps
set_option linter.unusedVariables false

structure LU (fs : List FamD) (l : List EntD) : Prop where
  va : ∀ e ∈ l.map EntD.dat, Va e
  un : ∀ x ∈ l, UndE fs x
  tl : ∀ f ∈ fs, 0 ≤ f.tl ∧ f.tl ≤ 1099511627776
end Go.Proofs.YthhkpkfpifllkaaGreat

namespace Go.Proofs.YthhkpkfpifllkaaGreat
open Go.RowKit Go.Maps
set_option linter.unusedVariables false

def chkC (e : EntD) : Int := ((checkS e : Nat) : Int)
theorem seq_of_chkC {e : EntD} (h : chkC e = 0) : 0 ≤ e.seq ∧ e.seq ≤ 17592186044431 := by
  unfold chkC at h
  have hc : checkS e = 0 := by omega
  unfold checkS at hc
  repeat' split at hc
  all_goals first | (exfalso; omega) | skip
  omega

set_option maxRecDepth 100000 in
set_option maxHeartbeats 4000000 in
theorem inOrderC_any {W : World} {cap : Nat} {a : Option Addr} {l : List EntD} (hr : RdL3 W a cap l) (hl : l.length ≤ 1353245080300)
    (HSort : ∀ Z a' c' xs, onceS l = some xs → Below W.heap.size W Z → Z.ownsRow W.heap.size 84 7 (.slice a' xs.length c') xs.length (evals xs) → Calls Tryz.prog 80 #[.slice a' xs.length c', .func (.func 81) #[] #[]] Z fun r Z' => r = .returned (.tuple #[]) ∧ ∃ ys : List EntD, ys.Perm xs ∧ (ys.Pairwise fun x y => compareS x y ≤ 0) ∧ Z'.ownsRow W.heap.size 84 7 (.slice a' xs.length c') xs.length (evals ys) ∧ Z.grownBy Z' (Value.slice a' xs.length c').ownBlock) :
    Calls Tryz.prog 47 #[.slice a l.length cap, .func (.func 48) #[] #[]] W fun r W' => Below W.heap.size W W' ∧ (inOrderE (chkC) l ≠ 0 → r = .returned (.tuple #[.slice none 0 0, .int .i64 (inOrderE (chkC) l)])) ∧ (inOrderE (chkC) l = 0 → ∃ xs ys a' c', onceS l = some xs ∧ ys.Perm xs ∧ (ys.Pairwise fun x y => compareS x y ≤ 0) ∧ r = .returned (.tuple #[.slice a' ys.length c', .int .i64 0]) ∧ W'.ownsRow W.heap.size 84 7 (.slice a' ys.length c') ys.length (evals ys)) := by
  obtain ⟨R, hR⟩ : ∃ R, R = inOrderE (chkC) l := ⟨_, rfl⟩
  obtain ⟨N, hN⟩ : ∃ N, N = l.length := ⟨_, rfl⟩
  rw [← hN] at hl ⊢
  rw [← hR]
  have HRR := Lib.hid hR
  have HN := Lib.hid hN
  have HRd := Lib.hid hr
  have HSo := Lib.hid HSort
  clear hR hN hr HSort
  go_enter Tryz.func47, Tryz.ntmps47
  go_wp2
  go_loopw [13] (fun i wr => ∃ t : Nat, t ≤ N ∧ i = .int .i64 (t : Int) ∧ Hid (Below W.heap.size W wr) ∧ Hid (∀ x ∈ l.take t, chkC x = 0)) (fun i _ => N - (intOf i).toNat)
  case atStart => exact ⟨0, Nat.zero_le _, rfl, Below.refl _ _, by unfold Hid; simp⟩
  case round =>
    obtain ⟨t, ht, rfl, HBw, HAll⟩ := hrel
    have t0 : (0 : Int) ≤ (t : Int) := by omega
    by_cases hlt : t < N
    · have hlt2 : (t : Int) < (N : Int) := by omega
      obtain ⟨e, he⟩ : ∃ e, l[t]? = some e := ⟨l[t]'(by rw [← HN.out]; exact hlt), List.getElem?_eq_getElem _⟩
      have hrd := HRd.out.later HBw.out
      have hok := hrd.ok e (List.mem_of_getElem? he)
      rcases hrd.at_ with h0 | ⟨b, off, rfl, hc⟩
      · rw [h0] at he; simp at he
      have d0 := hc t e he 0 e.vr rfl
      have d1 := hc t e he 1 (.int .i64 e.fam) rfl
      have d2 := hc t e he 2 e.vq rfl
      have d3 := hc t e he 3 (.int .i64 e.ts) rfl
      have d4 := hc t e he 4 (.int .i64 e.seq) rfl
      have d5 := hc t e he 5 (.int .i64 e.kind) rfl
      have d6 := hc t e he 6 e.vv rfl
      simp only [Nat.add_zero] at d0
      have A5 := (Below.refl wr.heap.size wr).alloc (Nat.le_refl _) (.cells e.cells 84)
      have B5 := HBw.out.trans (A5.mono HBw.out.size)
      have HCk := Lib.hid (check_any (hok.later A5))
      obtain ⟨_, a1, n1, e1, -⟩ := hok.1
      obtain ⟨_, a2, n2, e2, -⟩ := hok.2.1
      obtain ⟨_, a3, n3, e3, -⟩ := hok.2.2
      have hXe : e.cells = #[.slice a1 e.row.length n1, .int .i64 e.fam, .slice a2 e.qual.length n2, .int .i64 e.ts, .int .i64 e.seq, .int .i64 e.kind, .slice a3 e.val.length n3] := by unfold EntD.cells; rw [e1, e2, e3]
      rw [e1] at d0
      rw [e2] at d2
      rw [e3] at d6
      rw [hXe] at HCk B5
      have HB5 := Lib.hid B5
      have HE := Lib.hid he
      obtain ⟨c, hc2⟩ : ∃ c, c = chkC e := ⟨_, rfl⟩
      rw [show ((checkS e : Nat) : Int) = c from hc2.symm] at HCk
      have HC2 := Lib.hid hc2
      clear hrd hok hc A5 B5 e1 e2 e3 hXe he hc2
      go_wp2_with fail
      refine Calls.mono HCk.out ?_
      rintro z X2 ⟨rfl, b2⟩
      have HB2 := Lib.hid (HB5.out.trans (b2.mono HB5.out.size))
      clear b2 d0 d1 d2 d3 d4 d5 d6 HCk HB5
      by_cases h0 : c = 0
      · have HAll2 : Hid (∀ x ∈ l.take (t + 1), chkC x = 0) := by
          unfold Hid
          rw [List.take_add_one, HE.out]
          intro x hx
          rcases List.mem_append.1 hx with q | q
          · exact HAll.out x q
          · simp at q
            rw [q, ← HC2.out]; exact h0
        subst h0
        go_wp2
        go_roundw
        case rel => exact ⟨t + 1, by omega, by go_num, HB2, HAll2⟩
        case measure => simp only [intOf]; omega
      · have q : Hid (R = c ∧ R ≠ 0) := by
          have hd : l = l.take t ++ e :: l.drop (t + 1) := by
            have h1 := (List.getElem?_eq_some_iff.1 HE.out)
            rw [← h1.2, ← List.drop_eq_getElem_cons, List.take_append_drop]
          have hfb : firstBad (chkC) l = c := by
            rw [hd, HC2.out]
            exact firstBad_at HAll.out (by rw [← HC2.out]; exact h0)
          have : R = c := by rw [HRR.out, inOrderE, if_pos (by rw [hfb]; exact h0), hfb]
          exact ⟨this, by rw [this]; exact h0⟩
        have b0 : (c != 0) = true := by simp [h0]
        clear h0
        go_wp2
        go_ret2
        exact ⟨HB2.out, fun _ => by rw [q.out.1]; rfl, fun z => absurd z q.out.2⟩
    · have hge : ¬ (t : Int) < (N : Int) := by omega
      have e : t = N := by omega
      have hall : ∀ x ∈ l, chkC x = 0 := by have := HAll.out; rwa [e, HN.out, List.take_length] at this
      have HOn := Lib.hid (once_any (HRd.out.later HBw.out) (by rw [← HN.out]; omega) (fun x hx => seq_of_chkC (hall x hx)))
      have hRv : R = if onceS l = none then 31 else 0 := by rw [HRR.out, inOrderE, if_neg (by rw [firstBad_zero hall]; simp)]
      rw [← HN.out] at HOn
      have HRv := Lib.hid hRv
      clear hRv hall e
      go_wp2_with fail
      refine Calls.mono HOn.out ?_
      rintro z W2 ⟨b2, hnone, hsome⟩
      have HB2 := Lib.hid (HBw.out.trans (b2.mono HBw.out.size))
      clear HOn b2
      cases ho : onceS l with
      | none =>
        have hz := hnone ho
        subst hz
        have q : Hid (R = 31) := by unfold Hid; rw [HRv.out, if_pos ho]
        clear hnone hsome ho
        go_wp2
        go_ret2
        exact ⟨HB2.out, fun _ => by rw [q.out]; rfl, fun z => by have := q.out; omega⟩
      | some xs =>
        obtain ⟨a', c', hz, hrow⟩ := hsome xs ho
        subst hz
        have q : Hid (R = 0) := by unfold Hid; rw [HRv.out, if_neg (by rw [ho]; simp)]
        have hrow2 := row_low hrow HBw.out.size
        have HSc := Lib.hid (HSo.out W2 a' c' xs ho HB2.out hrow2)
        have HRw := Lib.hid hrow2
        have HOo := Lib.hid ho
        clear hnone hsome ho hrow hrow2
        go_wp2_with fail
        refine Calls.mono HSc.out ?_
        rintro z W3 ⟨rfl, ys, hp, hsrt, hrow3, hgr⟩
        have HF := Lib.hid (And.intro hp (And.intro hsrt (And.intro hrow3 hgr)))
        clear hp hsrt hrow3 hgr HSc
        go_wp2
        go_ret2
        obtain ⟨hp, hsrt, hrow3, hgr⟩ := HF.out
        have el := hp.length_eq
        refine ⟨HB2.out.grown hgr HB2.out.size (fun g hg => (HRw.out.lt g hg).1), fun z => absurd q.out z, fun _ => ⟨xs, ys, a', c', HOo.out, hp, hsrt, by rw [el]; rfl, by rw [el]; exact hrow3⟩⟩
end Go.Proofs.YthhkpkfpifllkaaGreat

namespace Go.Proofs.YthhkpkfpifllkaaGreat
open Go.RowKit Go.Maps
set_option linter.unusedVariables false

theorem row_set {w : World} {B s n c g k : Nat} {e : TypeId} {vs : List Value} (h : w.ownsRow B e s (.slice (some ⟨g, 0, none⟩) n c) n vs) (hk : k < vs.length) (u : Value) : (w.setCell ⟨g, k, none⟩ u).ownsRow B e s (.slice (some ⟨g, 0, none⟩) n c) n (vs.set k u) := by
  rcases h.2 with ⟨h1, _⟩ | ⟨g', cap, cur, h1, h2, h3, h4, h5, h6, h7⟩
  · cases h1
  · simp only [Value.slice.injEq, Option.some.injEq, Addr.mk.injEq] at h1
    obtain ⟨⟨rfl, -, -⟩, -, rfl⟩ := h1
    refine ⟨by have := h.1; simpa using this, .inr ⟨g, c, cur.setIfInBounds k u, rfl, h2, ?_, h4, h5, by simp [h6], ?_⟩⟩
    · simp [World.setCell, Array.getElem?_modify, h3]
    · rw [Array.toList_setIfInBounds, List.take_set, h7]
theorem evals_set {zs : List EntD} {t : Nat} (x : EntD) (ht : t < zs.length) : evals (zs.set t x) = (((((((evals zs).set (t * 7) x.vr).set (t * 7 + 1) (.int .i64 x.fam)).set (t * 7 + 2) x.vq).set (t * 7 + 3) (.int .i64 x.ts)).set (t * 7 + 4) (.int .i64 x.seq)).set (t * 7 + 5) (.int .i64 x.kind)).set (t * 7 + 6) x.vv := by
  induction zs generalizing t with
  | nil => simp at ht
  | cons y ys ih =>
    cases t with
    | zero =>
      rw [List.set_cons_zero, evals_cons, evals_cons]
      unfold EntD.cells
      simp
    | succ t =>
      have e : ∀ (L : List Value) (j : Nat) (v : Value), (y.cells.toList ++ L).set ((t + 1) * 7 + j) v = y.cells.toList ++ L.set (t * 7 + j) v := fun L j v => by
        rw [List.set_append_right _ _ (by rw [EntD.cells_len]; omega), EntD.cells_len]
        congr 2
        omega
      have e0 : ∀ (L : List Value) (v : Value), (y.cells.toList ++ L).set ((t + 1) * 7) v = y.cells.toList ++ L.set (t * 7) v := fun L v => e L 0 v
      rw [List.set_cons_succ, evals_cons, evals_cons, ih (by simpa using ht), e0, e, e, e, e, e, e]
theorem row_fz {w : World} {B s n c g : Nat} {e : TypeId} {vs : List Value} (h : w.ownsRow B e s (.slice (some ⟨g, 0, none⟩) n c) n vs) (i : Nat) : w.frozen? ⟨g, i, none⟩ = false := by
  rcases h.2 with ⟨h1, _⟩ | ⟨g', cap, cur, h1, h2, h3, h4, h5, h6, h7⟩
  · cases h1
  · simp only [Value.slice.injEq, Option.some.injEq, Addr.mk.injEq] at h1
    obtain ⟨⟨rfl, -, -⟩, -, rfl⟩ := h1
    simp [World.frozen?, h3]
theorem row_set7 {w : World} {B n c g t : Nat} {zs : List EntD} (h : w.ownsRow B 84 7 (.slice (some ⟨g, 0, none⟩) n c) n (evals zs)) (hn : n = zs.length) (ht : t < zs.length) (x : EntD) :
    (((((((w.setCell ⟨g, t * 7, none⟩ x.vr).setCell ⟨g, t * 7 + 1, none⟩ (.int .i64 x.fam)).setCell ⟨g, t * 7 + 2, none⟩ x.vq).setCell ⟨g, t * 7 + 3, none⟩ (.int .i64 x.ts)).setCell ⟨g, t * 7 + 4, none⟩ (.int .i64 x.seq)).setCell ⟨g, t * 7 + 5, none⟩ (.int .i64 x.kind)).setCell ⟨g, t * 7 + 6, none⟩ x.vv).ownsRow B 84 7 (.slice (some ⟨g, 0, none⟩) n c) n (evals (zs.set t x)) ∧ w.grownBy (((((((w.setCell ⟨g, t * 7, none⟩ x.vr).setCell ⟨g, t * 7 + 1, none⟩ (.int .i64 x.fam)).setCell ⟨g, t * 7 + 2, none⟩ x.vq).setCell ⟨g, t * 7 + 3, none⟩ (.int .i64 x.ts)).setCell ⟨g, t * 7 + 4, none⟩ (.int .i64 x.seq)).setCell ⟨g, t * 7 + 5, none⟩ (.int .i64 x.kind)).setCell ⟨g, t * 7 + 6, none⟩ x.vv) (some g) := by
  have l := evals_len zs
  refine ⟨?_, ?_⟩
  · rw [evals_set x ht]
    refine row_set (row_set (row_set (row_set (row_set (row_set (row_set h ?_ _) ?_ _) ?_ _) ?_ _) ?_ _) ?_ _) ?_ _
    all_goals first | omega | (simp only [List.length_set]; omega)
  · have s1 : ∀ (w : World) (i : Nat) (v : Value), w.grownBy (w.setCell ⟨g, i, none⟩ v) (some g) := fun w i v => by
      refine ⟨rfl, rfl, rfl, by rw [World.size_setCell]; exact Nat.le_refl _, fun j hj hne => Below.heap_setCell w ⟨g, i, none⟩ v j (fun z => hne (by rw [z]))⟩
    have tr : ∀ {a b c : World}, a.grownBy b (some g) → b.grownBy c (some g) → a.grownBy c (some g) := fun {a b c} h k => ⟨k.os.trans h.os, k.tape.trans h.tape, k.output.trans h.output, Nat.le_trans h.size k.size, fun j hj hne => (k.block j (Nat.lt_of_lt_of_le hj h.size) hne).trans (h.block j hj hne)⟩
    exact tr (tr (tr (tr (tr (tr (s1 _ _ _) (s1 _ _ _)) (s1 _ _ _)) (s1 _ _ _)) (s1 _ _ _)) (s1 _ _ _)) (s1 _ _ _)
structure Pc (W wr : World) (ys : List EntD) (t : Nat) (zs : List EntD) (v : Value) : Prop where
  row : wr.ownsRow W.heap.size 84 7 v zs.length (evals zs)
  ents : ∀ (i : Nat) x, i < t → zs[i]? = some x → O3 wr W.heap.size x
  ap : ∀ (i j : Nat) x y, i < j → j < t → zs[i]? = some x → zs[j]? = some y → Dsj x y
  below : Below W.heap.size W wr
  rest : ∀ i, t ≤ i → zs[i]? = ys[i]?
  dat : zs.map EntD.dat = ys.map EntD.dat
  ok : ∀ y ∈ ys, EntD.Ok W y
theorem Pc.step {W wr w1 w2 : World} {ys zs : List EntD} {t g n c : Nat} {x y : EntD} (h : Pc W wr ys t zs (.slice (some ⟨g, 0, none⟩) n c)) (hn : n = zs.length) (hy : ys[t]? = some y) (b : Below wr.heap.size wr w1) (o : O3 w1 wr.heap.size x) (e : x.dat = y.dat) (gr : w1.grownBy w2 (some g)) (r : w2.ownsRow W.heap.size 84 7 (.slice (some ⟨g, 0, none⟩) n c) n (evals (zs.set t x))) : Pc W w2 ys (t + 1) (zs.set t x) (.slice (some ⟨g, 0, none⟩) n c) := by
  have hlen : zs.length = ys.length := by have := congrArg List.length h.dat; simpa using this
  have ht : t < zs.length := by rw [hlen]; exact (List.getElem?_eq_some_iff.1 hy).1
  have gl := (h.row.lt g rfl)
  have ku : KU w1 w2 := KU.grown gr fun r hr => by
    cases hr
    have e1 := b.block g gl.2
    rcases h.row.2 with ⟨h1, _⟩ | ⟨g', cap, cur, h1, h2, h3, _⟩
    · cases h1
    · simp only [Value.slice.injEq, Option.some.injEq, Addr.mk.injEq] at h1
      obtain ⟨⟨rfl, -, -⟩, -⟩ := h1
      exact ⟨cur, _, _, e1.trans h3, by decide⟩
  have bb := h.below.trans (b.mono h.below.size)
  have old : ∀ (i : Nat) z, i < t → zs[i]? = some z → O3 w2 W.heap.size z ∧ ∀ k, (z.vr.ownBlock = some k ∨ z.vq.ownBlock = some k ∨ z.vv.ownBlock = some k) → k < wr.heap.size := fun i z hi hz => ⟨((h.ents i z hi hz).later b).ku ku, fun k hk => ((h.ents i z hi hz).lt k hk).2⟩
  refine ⟨by rw [List.length_set, ← hn]; exact r, fun i z hi hz => ?_, fun i j p q hij hj hp hq => ?_, bb.grown gr bb.size (fun k hk => by cases hk; exact gl.1), fun i hi => ?_, ?_, h.ok⟩
  · by_cases e1 : i = t
    · subst e1
      rw [List.getElem?_set_self ht] at hz
      cases hz
      exact (o.mono h.below.size).ku ku
    · rw [List.getElem?_set_ne (by omega)] at hz
      exact (old i z (by omega) hz).1
  · rw [List.getElem?_set_ne (by omega)] at hp
    by_cases e1 : j = t
    · subst e1
      rw [List.getElem?_set_self ht] at hq
      cases hq
      intro k hk hk2
      have := (old i p hij hp).2 k hk
      have := (o.lt k hk2).1
      omega
    · rw [List.getElem?_set_ne (by omega)] at hq
      exact h.ap i j p q hij (by omega) hp hq
  · rw [List.getElem?_set_ne (by omega)]
    exact h.rest i (by omega)
  · rw [List.map_set, h.dat, e]
    apply List.ext_getElem?
    intro i
    by_cases e1 : i = t
    · subst e1
      rw [List.getElem?_set_self (by simp; omega), List.getElem?_map, hy]
      rfl
    · rw [List.getElem?_set_ne (by omega)]
theorem Pc.done {W wr : World} {ys zs : List EntD} {v : Value} (h : Pc W wr ys zs.length zs v) : Rw wr W.heap.size v zs (fun i => W.heap.size ≤ i ∧ i < wr.heap.size) := by
  refine ⟨h.row, fun x hx => ?_, ?_, fun k hk => h.row.lt k hk, fun x hx k hk => ?_⟩
  · obtain ⟨i, hi⟩ := List.getElem?_of_mem hx
    exact h.ents i x (List.getElem?_eq_some_iff.1 hi).1 hi
  · rw [List.pairwise_iff_getElem]
    intro i j hi hj hij
    exact h.ap i j _ _ hij hj (List.getElem?_eq_getElem hi) (List.getElem?_eq_getElem hj)
  · obtain ⟨i, hi⟩ := List.getElem?_of_mem hx
    exact (h.ents i x (List.getElem?_eq_some_iff.1 hi).1 hi).lt k hk
end Go.Proofs.YthhkpkfpifllkaaGreat

namespace Go.Proofs.YthhkpkfpifllkaaGreat
open Go.RowKit Go.Maps
set_option linter.unusedVariables false

theorem chkC_8 (e : EntD) : chkC e = 0 ↔ check3S 8 e = 0 := by
  unfold chkC check3S
  by_cases h : checkS e = 0
  · have hf : ¬ ((8 : Nat) : Int) ≤ e.fam := by
      unfold checkS at h
      repeat' split at h
      all_goals first | (exfalso; omega) | skip
      omega
    simp [h]
    omega
  · simp [h]
theorem inOrderC_8 {l : List EntD} (h : inOrderE chkC l = 0) : inOrderE (check3S 8) l = 0 := by
  obtain ⟨h1, xs, h2⟩ := inOrder_ok h
  unfold inOrderE
  rw [firstBad_zero (fun x hx => (chkC_8 x).1 (h1 x hx)), if_neg (by simp), if_neg (by rw [h2]; simp)]
theorem chkC_len {e : EntD} (h : chkC e = 0) : e.row.length ≤ 140737488355328 ∧ e.qual.length ≤ 140737488355328 ∧ e.val.length ≤ 140737488355328 := by
  have ck := check_zero.1 ((chkC_8 e).1 h)
  omega
set_option maxRecDepth 100000 in
set_option maxHeartbeats 8000000 in
theorem sort_any {W : World} {cap : Nat} {a : Option Addr} {l : List EntD} (h0 : RdL3 W a cap l) (hl : l.length ≤ 1353245080300) :
    Calls Tryz.prog 15 #[.slice a l.length cap] W fun r W' => Below W.heap.size W W' ∧ (inOrderE chkC l ≠ 0 → r = .returned (.tuple #[.slice none 0 0, .int .i64 (inOrderE chkC l)])) ∧ (inOrderE chkC l = 0 → ∃ (zs : List EntD) (m : List En) (v : Value) (O : Nat → Prop), IsOrd 8 (l.map EntD.dat) m ∧ r = .returned (.tuple #[v, .int .i64 0]) ∧ Rw W' W.heap.size v zs O ∧ (∀ i, O i → W.heap.size ≤ i ∧ i < W'.heap.size) ∧ zs.map EntD.dat = m ∧ zs.length ≤ l.length) := by
  have HI := Lib.hid (inOrderC_any h0 hl (fun Z a' c' xs ho b own => sort_ok W.heap.size Z a' c' xs (fun x hx => (h0.ok x (onceS_mem ho x hx)).later b) (Nat.le_trans (onceS_len ho) hl) b.size own))
  obtain ⟨E, hE⟩ : ∃ E, E = inOrderE chkC l := ⟨_, rfl⟩
  obtain ⟨N, hN⟩ : ∃ N, N = l.length := ⟨_, rfl⟩
  rw [← hE, ← hN] at HI
  rw [← hE, ← hN]
  have HE := Lib.hid hE
  have HN := Lib.hid hN
  have H0 := Lib.hid h0
  have HL := Lib.hid hl
  clear hE hN h0 hl
  go_enter Tryz.func15, Tryz.ntmps15
  go_wp2_with fail
  refine Calls.mono HI.out ?_
  rintro z w1 ⟨b1, h1, h2⟩
  have B1 := Lib.hid b1
  clear b1 HI
  by_cases hz : E = 0
  · obtain ⟨xs, ys, a', c', k1, k2, k3, rfl, k5⟩ := h2 hz
    have hio : inOrderE chkC l = 0 := HE.out.symm.trans hz
    have hord := isOrd_of (inOrderC_8 hio) k1 k2 k3
    have hck : ∀ y ∈ ys, chkC y = 0 := fun y hy => (inOrder_ok hio).1 y (onceS_mem k1 y (k2.mem_iff.1 hy))
    have hokW : ∀ y ∈ ys, EntD.Ok W y := fun y hy => H0.out.ok y (onceS_mem k1 y (k2.mem_iff.1 hy))
    have hln : ys.length ≤ N := by rw [k2.length_eq, HN.out]; exact onceS_len k1
    have HO := Lib.hid (And.intro hord (And.intro hck (And.intro hokW hln)))
    have HP : Hid (Pc W w1 ys 0 ys (.slice a' ys.length c')) := ⟨k5, (fun i x hi => by omega), (fun i j x y _ hj => by omega), B1.out, fun _ _ => rfl, rfl, hokW⟩
    obtain ⟨n, hn⟩ : ∃ n, n = ys.length := ⟨_, rfl⟩
    rw [← hn] at HP ⊢
    have HNn := Lib.hid hn
    have hnN : n ≤ 1353245080300 := by have := HL.out; rw [← HN.out] at this; omega
    subst hz
    clear h1 h2 k1 k2 k3 k5 hio hord hck hokW hln hn
    go_wp2
    go_loopw [6, 7, 18] (fun _ _ i wr => ∃ (t : Nat) (zs : List EntD), t ≤ n ∧ i = .int .i64 (t : Int) ∧ Hid (Pc W wr ys t zs (.slice a' n c'))) (fun _ _ i _ => n - (intOf i).toNat)
    case atStart => exact ⟨0, ys, Nat.zero_le _, rfl, HP⟩
    case round =>
      obtain ⟨t, zs, ht, rfl, HQ⟩ := hrel
      have t0 : (0 : Int) ≤ (t : Int) := by omega
      have hzl : zs.length = n := by
        have := congrArg List.length HQ.out.dat
        rw [List.length_map, List.length_map] at this
        rw [this, ← HNn.out]
      by_cases hlt : t < n
      · have hlt2 : (t : Int) < (n : Int) := by omega
        obtain ⟨y, hy⟩ : ∃ y, ys[t]? = some y := ⟨ys[t]'(by rw [← HNn.out]; exact hlt), List.getElem?_eq_getElem _⟩
        have hzy : zs[t]? = some y := by rw [HQ.out.rest t (Nat.le_refl _)]; exact hy
        have hrw := HQ.out.row
        rw [hzl] at hrw
        have hrw2 := hrw
        rw [← hzl] at hrw2
        obtain ⟨g, rfl, hnc, hcm, hc⟩ := row_cells3 hrw2 hzy
        have hokc := (HO.out.2.2.1 y (List.mem_of_getElem? hy)).later HQ.out.below
        obtain ⟨_, a1, n1, e1, -⟩ := id hokc.1
        obtain ⟨_, a3, n3, e3, -⟩ := id hokc.2.1
        obtain ⟨_, a5, n5, e5, -⟩ := id hokc.2.2
        have hlen3 := chkC_len (HO.out.2.1 y (List.mem_of_getElem? hy))
        obtain ⟨xr, xf, xq, xt, xsq, xk, xv, xrow, xqual, xval⟩ := y
        simp only at e1 e3 e5
        subst e1 e3 e5
        have y0 := hc 0 _ rfl
        have y1 := hc 1 _ rfl
        have y2 := hc 2 _ rfl
        have y3 := hc 3 _ rfl
        have y4 := hc 4 _ rfl
        have y5 := hc 5 _ rfl
        have y6 := hc 6 _ rfl
        simp only [Nat.add_zero] at y0
        have A := (Below.refl wr.heap.size wr).alloc (Nat.le_refl _) (.cells #[.slice a1 xrow.length n1, .int .i64 xf, .slice a3 xqual.length n3, .int .i64 xt, .int .i64 xsq, .int .i64 xk, .slice a5 xval.length n5] 84)
        have eb := EBox.new wr (⟨.slice a1 xrow.length n1, xf, .slice a3 xqual.length n3, xt, xsq, xk, .slice a5 xval.length n5, xrow, xqual, xval⟩ : EntD)
        obtain ⟨X, hX⟩ : ∃ X, X = wr.alloc (.cells #[.slice a1 xrow.length n1, .int .i64 xf, .slice a3 xqual.length n3, .int .i64 xt, .int .i64 xsq, .int .i64 xk, .slice a5 xval.length n5] 84) := ⟨_, rfl⟩
        have eb' : EBox X wr.heap.size (⟨.slice a1 xrow.length n1, xf, .slice a3 xqual.length n3, xt, xsq, xk, .slice a5 xval.length n5, xrow, xqual, xval⟩ : EntD) := by rw [hX]; exact eb
        rw [← hX] at A
        have HX := Lib.hid hX
        have HA := Lib.hid A
        have z0 := eb'.vr
        have z1 := eb'.fam
        have z2 := eb'.vq
        have z3 := eb'.ts
        have z4 := eb'.seq
        have z5 := eb'.kind
        have z6 := eb'.vv
        simp only at z0 z1 z2 z3 z4 z5 z6
        have HCl := Lib.hid (clone3_own (hokc.later A) hlen3)
        unfold EntD.cells at HCl
        have HRr : Hid (wr.ownsRow W.heap.size 84 7 (.slice (some ⟨g, 0, none⟩) n c') n (evals zs)) := hrw
        have HZy := Lib.hid hzy
        have HYy := Lib.hid hy
        have HZl := Lib.hid hzl
        clear hrw hrw2 hc hokc hlen3 hX A eb eb' hy hzy hzl HP
        go_upto_region 7 with fail
        rw [← HX.out]
        clear HX y0 y1 y2 y3 y4 y5 y6
        go_wp2_with fail
        refine Calls.mono HCl.out ?_
        rintro q1 w2 ⟨x, rfl, sx, ok1, o31, b2⟩
        have HSx := Lib.hid (EntD.dat_same.2 sx)
        obtain ⟨ur, uf, uq, ut, us, uk, uv, urow, uqual, uval⟩ := x
        obtain ⟨ar, cr, er⟩ := own_form' o31.row
        obtain ⟨aq, cq, eq⟩ := own_form' o31.qual
        obtain ⟨aw, cw, ew⟩ := own_form' o31.val
        simp only at er eq ew
        subst er eq ew
        dsimp only
        have BX := Lib.hid (HA.out.trans (b2.mono HA.out.size))
        have hr2 : w2.ownsRow W.heap.size 84 7 (.slice (some ⟨g, 0, none⟩) n c') n (evals zs) := row_same HRr.out (fun k hk => BX.out.block k (HRr.out.lt k hk).2)
        have hr3 := hr2
        rw [← HZl.out] at hr3
        obtain ⟨g', eg, -, -, hc2⟩ := row_cells3 hr3 HZy.out
        cases eg
        have y0 := hc2 0 _ rfl
        have y1 := hc2 1 _ rfl
        have y2 := hc2 2 _ rfl
        have y3 := hc2 3 _ rfl
        have y4 := hc2 4 _ rfl
        have y5 := hc2 5 _ rfl
        have y6 := hc2 6 _ rfl
        simp only [Nat.add_zero] at y0
        have f0 := row_fz hr2 (t * 7)
        have f1 := row_fz hr2 (t * 7 + 1)
        have f2 := row_fz hr2 (t * 7 + 2)
        have f3 := row_fz hr2 (t * 7 + 3)
        have f4 := row_fz hr2 (t * 7 + 4)
        have f5 := row_fz hr2 (t * 7 + 5)
        have f6 := row_fz hr2 (t * 7 + 6)
        have HR2 := Lib.hid hr2
        have O31 := Lib.hid o31
        clear hr2 hr3 hc2 sx ok1 o31 b2 HCl z0 z1 z2 z3 z4 z5 z6
        go_upto_region 8 with fail
        have hs7 := row_set7 (t := t) HR2.out HZl.out.symm (by rw [HZl.out]; exact hlt) (⟨.slice ar urow.length cr, uf, .slice aq uqual.length cq, ut, us, uk, .slice aw uval.length cw, urow, uqual, uval⟩ : EntD)
        simp only at hs7
        generalize (((((((w2.setCell ⟨g, t * 7, none⟩ (.slice ar urow.length cr)).setCell ⟨g, t * 7 + 1, none⟩ (.int .i64 uf)).setCell ⟨g, t * 7 + 2, none⟩ (.slice aq uqual.length cq)).setCell ⟨g, t * 7 + 3, none⟩ (.int .i64 ut)).setCell ⟨g, t * 7 + 4, none⟩ (.int .i64 us)).setCell ⟨g, t * 7 + 5, none⟩ (.int .i64 uk)).setCell ⟨g, t * 7 + 6, none⟩ (.slice aw uval.length cw)) = X2 at hs7 ⊢
        have HN2 : Hid (Pc W X2 ys (t + 1) (zs.set t (⟨.slice ar urow.length cr, uf, .slice aq uqual.length cq, ut, us, uk, .slice aw uval.length cw, urow, uqual, uval⟩ : EntD)) (.slice (some ⟨g, 0, none⟩) n c')) := HQ.out.step HZl.out.symm HYy.out BX.out (O31.out.mono HA.out.size) HSx.out hs7.2 hs7.1
        clear hs7 y0 y1 y2 y3 y4 y5 y6 f0 f1 f2 f3 f4 f5 f6
        go_wp2
        go_roundw
        case rel => exact ⟨t + 1, _, by omega, by go_num, HN2.out⟩
        case measure => simp only [intOf]; omega
      · have hgt : ¬ (t : Int) < (n : Int) := by omega
        have HD : Hid (Pc W wr ys zs.length zs (.slice a' n c')) := by
          have := HQ.out
          rw [show t = zs.length by omega] at this
          exact this
        go_wp2
        go_ret2
        obtain ⟨o1, o2, o3, o4⟩ := HO.out
        exact ⟨HD.out.below, zs, _, o1, _, rfl, _, HD.out.done, fun i hi => hi, HD.out.dat, by rw [hzl, HNn.out]; exact o4⟩
  · have b0 : (E != 0) = true := by simp [hz]
    have hr := h1 hz
    subst hr
    have HZ := Lib.hid hz
    clear h1 h2 hz
    go_wp2
    go_ret2
    exact ⟨B1.out, fun _ => rfl, fun z => absurd z HZ.out⟩
end Go.Proofs.YthhkpkfpifllkaaGreat

namespace Go.Proofs.YthhkpkfpifllkaaGreat
open Go.RowKit Go.Maps
set_option linter.unusedVariables false

def chkF (k : Int) (e : EntD) : Int := if checkS e ≠ 0 then (checkS e : Int) else if 0 ≤ k ∧ k ≤ e.fam then 21 else 0
def OneS (l : List EntD) : Prop := ∀ x ∈ l, ∀ y ∈ l, x.seq = y.seq → x.dat = y.dat
end Go.Proofs.YthhkpkfpifllkaaGreat

namespace Go.Proofs.YthhkpkfpifllkaaGreat
open Go.RowKit Go.Maps
set_option linter.unusedVariables false

structure Od (W wr : World) (l : List EntD) (t : Nat) (zs : List EntD) (v : Value) : Prop where
  row : wr.ownsRow W.heap.size 84 7 v zs.length (evals zs)
  ents : ∀ x ∈ zs, O3 wr W.heap.size x
  below : Below W.heap.size W wr
  srt : zs.Pairwise fun x y => compareS x y < 0
  mem : ∀ d, d ∈ zs.map EntD.dat ↔ d ∈ (l.take t).map EntD.dat
  by_ : ∀ x ∈ zs, ByE x.dat
end Go.Proofs.YthhkpkfpifllkaaGreat

namespace Go.Proofs.YthhkpkfpifllkaaGreat
open Go.RowKit Go.Maps
set_option linter.unusedVariables false

end Go.Proofs.YthhkpkfpifllkaaGreat

namespace Go.Proofs.YthhkpkfpifllkaaGreat
open Go.RowKit Go.Maps
set_option linter.unusedVariables false

structure Vw (W wr : World) (zs : List EntD) (v : Value) (p : List En) : Prop where
  row : wr.ownsRow W.heap.size 84 7 v zs.length (evals zs)
  ents : ∀ x ∈ zs, O3 wr W.heap.size x
  below : Below W.heap.size W wr
  dat : zs.map EntD.dat = p
  by_ : ∀ x ∈ zs, ByE x.dat
end Go.Proofs.YthhkpkfpifllkaaGreat

namespace Go.Proofs.YthhkpkfpifllkaaGreat
open Go.RowKit Go.Maps
set_option linter.unusedVariables false

def askE (C : Nat) (fs : List FamD) (clock low t n : Int) (l : List EntD) : Int := if C ≠ 0 then (C : Int) else if (badT clock || badT low || badT t || decide (n < 1) || decide (16 < n)) = true then 32 else inOrderE (check3S fs.length) l
end Go.Proofs.YthhkpkfpifllkaaGreat

namespace Go.Proofs.YthhkpkfpifllkaaGreat
open Go.RowKit Go.Maps
set_option linter.unusedVariables false

end Go.Proofs.YthhkpkfpifllkaaGreat

namespace Go.Proofs.YthhkpkfpifllkaaGreat
open Go.RowKit Go.Maps
set_option linter.unusedVariables false

end Go.Proofs.YthhkpkfpifllkaaGreat
