import Derived.Test.YthhkpkfpifllkaaK15
namespace Go.Proofs.Ythhkpkfpifllkaa
open Go.RowKit
set_option linter.unusedVariables false

def hk (x : En) : En := if x.kind = 3 then { x with kind := 2 } else x
theorem hk_eq (x : En) : (hk x).row = x.row ∧ (hk x).fam = x.fam ∧ (hk x).qual = x.qual ∧ (hk x).ts = x.ts ∧ (hk x).seq = x.seq ∧ (hk x).val = x.val ∧ (x.kind = 3 ∧ (hk x).kind = 2 ∨ x.kind ≠ 3 ∧ (hk x).kind = x.kind) := by
  unfold hk
  split
  · rename_i h; exact ⟨rfl, rfl, rfl, rfl, rfl, rfl, .inl ⟨h, rfl⟩⟩
  · rename_i h; exact ⟨rfl, rfl, rfl, rfl, rfl, rfl, .inr ⟨h, rfl⟩⟩
theorem hk_inj {x y : En} (h : hk y = hk x) : y.row = x.row ∧ y.fam = x.fam ∧ y.qual = x.qual ∧ y.ts = x.ts ∧ y.seq = x.seq ∧ y.val = x.val := by
  obtain ⟨a1, a2, a3, a4, a5, a6, _⟩ := hk_eq x
  obtain ⟨b1, b2, b3, b4, b5, b6, _⟩ := hk_eq y
  exact ⟨by rw [← b1, h, a1], by rw [← b2, h, a2], by rw [← b3, h, a3], by rw [← b4, h, a4], by rw [← b5, h, a5], by rw [← b6, h, a6]⟩
theorem gpE_symm {x y : En} (h : gpE x y = true) : gpE y x = true := by
  obtain ⟨g1, g2, g3, g4, g5, g6⟩ := gpE_iff.1 h
  exact gpE_iff.2 ⟨g2, g1, g3.symm, g4.symm, g5.symm, g6.symm⟩
theorem gpE_trans {x y z : En} (h : gpE x y = true) (k : gpE y z = true) : gpE x z = true := by
  obtain ⟨g1, g2, g3, g4, g5, g6⟩ := gpE_iff.1 h
  obtain ⟨k1, k2, k3, k4, k5, k6⟩ := gpE_iff.1 k
  exact gpE_iff.2 ⟨g1, k2, g3.trans k3, g4.trans k4, g5.trans k5, g6.trans k6⟩
theorem gpE_self {x : En} (h : x.kind ≤ 3) : gpE x x = true := gpE_iff.2 ⟨h, h, rfl, rfl, rfl, rfl⟩
theorem mates_of {x y : En} (h : gpE x y = true) : mates x y = true := by
  obtain ⟨g1, g2, g3, g4, g5, g6⟩ := gpE_iff.1 h
  exact mates_iff.2 ⟨g3, g4, g5⟩
theorem mates_trans {x y z : En} (h : mates x y = true) (k : mates y z = true) : mates x z = true := by
  have a := mates_iff.1 h
  have b := mates_iff.1 k
  exact mates_iff.2 ⟨a.1.trans b.1, a.2.1.trans b.2.1, a.2.2.trans b.2.2⟩
theorem mates_symm {x y : En} (h : mates x y = true) : mates y x = true := by
  have a := mates_iff.1 h
  exact mates_iff.2 ⟨a.1.symm, a.2.1.symm, a.2.2.symm⟩
theorem mask_mates {m : List En} {x y : En} (h : mates x y = true) (hx : x.kind ≤ 3) (hy : y.kind ≤ 3) : maskOf m x = maskOf m y := maskOf_same (mates_iff.1 h) (by omega)
theorem hasPut_gp {m : List En} {x y : En} (h : gpE x y = true) : hasPut m x = hasPut m y := by
  rw [Bool.eq_iff_iff, hasPut_iff, hasPut_iff]
  exact ⟨fun ⟨z, hz, g, k⟩ => ⟨z, hz, gpE_trans g h, k⟩, fun ⟨z, hz, g, k⟩ => ⟨z, hz, gpE_trans g (gpE_symm h), k⟩⟩
theorem decider {m : List En} (hs : m.Pairwise Ah) {y : En} (hy : y ∈ m) (h3 : y.kind ≤ 3) : ∃ z ∈ m, gpE z y = true ∧ decidesS m z = true := by
  cases hf : m.find? (fun z => gpE z y) with
  | none =>
    have := List.find?_eq_none.1 hf y hy
    rw [gpE_self h3] at this
    exact absurd rfl this
  | some z =>
    obtain ⟨hz, a, b, hm, hab⟩ := List.find?_eq_some_iff_append.1 hf
    refine ⟨z, by rw [hm]; simp, hz, first_decides hm hs fun x hx => ?_⟩
    have := hab x hx
    cases h : gpE x z with
    | false => rfl
    | true => rw [gpE_trans h hz] at this; cases this
section
variable {fs : List (Int × Int)} {clock : Int}
theorem kd_put {m : List En} {x : En} (hx : x ∈ m) (h3 : x.kind ≤ 3) : kd m x ≠ 3 ↔ hasPut m x = true := by
  unfold kd
  by_cases k : x.kind = 3
  · cases h : hasPut m x with
    | true => simp [k]
    | false => simp [k]
  · have : hasPut m x = true := hasPut_iff.2 ⟨x, hx, gpE_self h3, k⟩
    simp [k, this]
theorem kd_hk {m : List En} {x : En} (hp : hasPut m x = true) : { x with kind := kd m x } = hk x := by
  unfold kd hk
  by_cases k : x.kind = 3
  · simp [k, hp]
  · simp [k]
theorem tld_hk {m : List En} {x : En} (h3 : x.kind ≤ 3) (hd : decidesS m x = true) (hp : hasPut m x = true) : tld m x = hk x := by
  rw [tld_ver h3 hd, kd_hk hp]
theorem five_iff {m : List En} {x : En} (hx : x ∈ m) : (sv fs clock m x).fate = 5 ↔ x.kind ≤ 3 ∧ decidesS m x = true ∧ hasPut m x = true ∧ maskOf m x < x.ts ∧ expS fs clock x = false ∧ above fs clock m x + 1 ≤ (famAt fs x.fam).1 := by
  constructor
  · intro h
    have h3 : x.kind ≤ 3 := by
      by_cases k : x.kind ≤ 3
      · exact k
      · exact absurd h (mark_seven (by omega))
    have st := stays_ver h3 (five_stays (low := 0) h true)
    have k3 := (five_kd h3 h).1
    exact ⟨h3, st.1, (kd_put hx h3).1 k3, st.2.1, st.2.2.1, st.2.2.2 k3⟩
  · rintro ⟨h3, hd, hp, hm, he, ha⟩
    rw [sv_ver h3 hd hm he, if_neg ((kd_put hx h3).2 hp), if_neg (by omega)]
theorem counts_put {m : List En} {x : En} (hx : x ∈ m) : counts fs clock m x = true ↔ x.kind ≤ 3 ∧ decidesS m x = true ∧ hasPut m x = true ∧ maskOf m x < x.ts ∧ expS fs clock x = false := by
  rw [counts_iff]
  constructor
  · rintro ⟨h3, hd, k, r⟩; exact ⟨h3, hd, (kd_put hx h3).1 k, r⟩
  · rintro ⟨h3, hd, k, r⟩; exact ⟨h3, hd, (kd_put hx h3).2 k, r⟩
theorem exp_mates {x y : En} (h : x.fam = y.fam) (ht : x.ts = y.ts) : expS fs clock x = expS fs clock y := by unfold expS; rw [h, ht]
theorem exp_up {x y : En} (h : x.fam = y.fam) (ht : x.ts ≤ y.ts) (hx : expS fs clock x = false) : expS fs clock y = false := by
  unfold expS at hx ⊢
  rw [decide_eq_false_iff_not] at hx ⊢
  rw [← h]
  omega
theorem exp_early {c : Int} {x : En} (hc : c ≤ clock) (hx : expS fs clock x = false) : expS fs c x = false := by
  unfold expS at hx ⊢
  rw [decide_eq_false_iff_not] at hx ⊢
  omega
def Gp (m : List En) (x : En) (t : Int) : Prop := ∃ y ∈ m, y.kind ≤ 2 ∧ mates y x = true ∧ y.ts = t
theorem Gp.mono {m r : List En} {x y : En} {t : Int} (h : Gp m x t) (hs : ∀ e ∈ m, e ∈ r) (hm : mates x y = true) : Gp r y t := by
  obtain ⟨z, hz, k, a, b⟩ := h
  exact ⟨z, hs z hz, k, mates_trans a hm, b⟩
def ups (fs : List (Int × Int)) (clock : Int) (m : List En) (x : En) : List Int := (m.filter fun y => counts fs clock m y && mates y x && decide (x.ts < y.ts)).map En.ts
theorem ups_len (m : List En) (x : En) : ((ups fs clock m x).length : Int) = above fs clock m x := by
  unfold ups above
  rw [List.length_map]
theorem ups_desc {m : List En} (hs : m.Pairwise Ah) (x : En) : (ups fs clock m x).Pairwise (fun a b => b < a) := by
  unfold ups
  rw [List.pairwise_map]
  have h1 := hs.filter (fun y => counts fs clock m y && mates y x && decide (x.ts < y.ts))
  refine List.Pairwise.imp_of_mem ?_ h1
  intro a b ha hb hab
  obtain ⟨am, ha⟩ := List.mem_filter.1 ha
  obtain ⟨bm, hb⟩ := List.mem_filter.1 hb
  simp only [Bool.and_eq_true, decide_eq_true_eq] at ha hb
  have a1 := mates_iff.1 ha.1.2
  have b1 := mates_iff.1 hb.1.2
  have ca := counts_iff.1 ha.1.1
  have cb := counts_iff.1 hb.1.1
  have r := a1.1.trans b1.1.symm
  have f := a1.2.1.trans b1.2.1.symm
  have q := a1.2.2.trans b1.2.2.symm
  have t := hab.ts r f (by omega) q (by omega)
  have : a.ts ≠ b.ts := fun z => by
    have := one_decides hs am bm (gpE_iff.2 ⟨ca.1, cb.1, r, f, q, z⟩) ca.2.1 cb.2.1
    subst this
    exact ah_irrefl hab
  omega
theorem desc_nodup {l : List Int} (h : l.Pairwise (fun a b => b < a)) : l.Nodup := h.imp (fun {a b} hab => by omega)
theorem sub_len : ∀ {a b : List Int}, a.Nodup → (∀ x ∈ a, x ∈ b) → a.length ≤ b.length
  | [], b, _, _ => Nat.zero_le _
  | x :: a, b, h, hs => by
    have h1 := List.nodup_cons.1 h
    have hb : x ∈ b := hs x List.mem_cons_self
    have := sub_len (a := a) (b := b.erase x) h1.2 (fun y hy => (List.mem_erase_of_ne (a := y) (b := x) (fun e => h1.1 (by rw [← e]; exact hy))).2 (hs y (List.mem_cons_of_mem _ hy)))
    rw [List.length_erase_of_mem hb] at this
    have : 0 < b.length := List.length_pos_of_mem hb
    simp only [List.length_cons]
    omega
theorem ups_mem {m : List En} (hs : m.Pairwise Ah) {x : En} (h3 : x.kind ≤ 3) (hm : maskOf m x < x.ts) (he : expS fs clock x = false) (t : Int) : t ∈ ups fs clock m x ↔ x.ts < t ∧ Gp m x t := by
  unfold ups
  rw [List.mem_map]
  constructor
  · rintro ⟨y, hy, rfl⟩
    obtain ⟨ym, hy⟩ := List.mem_filter.1 hy
    simp only [Bool.and_eq_true, decide_eq_true_eq] at hy
    have c := (counts_put ym).1 hy.1.1
    obtain ⟨z, hz, g, k⟩ := hasPut_iff.1 c.2.2.1
    have g' := gpE_iff.1 g
    exact ⟨hy.2, z, hz, by omega, mates_trans (mates_of g) hy.1.2, g'.2.2.2.2.2⟩
  · rintro ⟨ht, y, hy, k, hM, rfl⟩
    obtain ⟨z, hz, g, hd⟩ := decider hs hy (by omega)
    have g' := gpE_iff.1 g
    have M : mates z x = true := mates_trans (mates_of g) hM
    refine ⟨z, List.mem_filter.2 ⟨hz, ?_⟩, g'.2.2.2.2.2⟩
    simp only [Bool.and_eq_true, decide_eq_true_eq]
    refine ⟨⟨(counts_put hz).2 ⟨g'.1, hd, hasPut_iff.2 ⟨y, hy, gpE_symm g, by omega⟩, ?_, ?_⟩, M⟩, by omega⟩
    · rw [mask_mates M g'.1 h3]; omega
    · exact exp_up (mates_iff.1 M).2.1.symm (by omega) he
def Full (fs : List (Int × Int)) (r : List En) (x : En) : Prop := ∃ ts : List Int, ts.Nodup ∧ (famAt fs x.fam).1 ≤ (ts.length : Int) ∧ ∀ t ∈ ts, x.ts < t ∧ Gp r x t
theorem Full.mono {r s : List En} {x y : En} (h : Full fs r x) (hs : ∀ e ∈ r, e ∈ s) (hm : mates x y = true) (ht : y.ts ≤ x.ts) : Full fs s y := by
  obtain ⟨ts, n, l, h⟩ := h
  refine ⟨ts, n, by rw [← (mates_iff.1 hm).2.1]; exact l, fun t h1 => ⟨by have := (h t h1).1; omega, (h t h1).2.mono hs hm⟩⟩
theorem Full.above {r : List En} (hs : r.Pairwise Ah) {x : En} (h : Full fs r x) (h3 : x.kind ≤ 3) (hm : maskOf r x < x.ts) (he : expS fs clock x = false) : (famAt fs x.fam).1 ≤ above fs clock r x := by
  obtain ⟨ts, n, l, h⟩ := h
  rw [← ups_len]
  have := sub_len n (fun t ht => (ups_mem hs h3 hm he t).2 (h t ht))
  omega
structure Wk5 (fs : List (Int × Int)) (clock : Int) (m r : List En) : Prop where
  frm : ∀ y ∈ r, y.kind ≤ 3 → ∃ x ∈ m, gpE x y = true ∧ (y.kind ≤ 2 → hasPut m x = true)
  mask : ∀ x, maskOf r x ≤ maskOf m x
  maskb : ∀ y ∈ r, y.kind ≤ 3 → maskOf r y < y.ts → maskOf m y < y.ts
  alt : ∀ x ∈ m, x.kind ≤ 3 → decidesS m x = true → hasPut m x = true → maskOf m x < x.ts → expS fs clock x = false → (∃ y ∈ r, hk y = hk x ∧ y.kind ≤ 3 ∧ decidesS r y = true ∧ hasPut r y = true) ∨ Full fs r x
def fiveL (fs : List (Int × Int)) (clock : Int) (m : List En) : List En := (m.filter fun x => decide ((sv fs clock m x).fate = 5)).map (tld m)
theorem five_mem {m : List En} {e : En} : e ∈ fiveL fs clock m ↔ ∃ x ∈ m, (x.kind ≤ 3 ∧ decidesS m x = true ∧ hasPut m x = true ∧ maskOf m x < x.ts ∧ expS fs clock x = false ∧ above fs clock m x + 1 ≤ (famAt fs x.fam).1) ∧ hk x = e := by
  unfold fiveL
  rw [List.mem_map]
  constructor
  · rintro ⟨x, hx, rfl⟩
    obtain ⟨xm, hx⟩ := List.mem_filter.1 hx
    have h := (five_iff xm).1 (of_decide_eq_true hx)
    exact ⟨x, xm, h, (tld_hk h.1 h.2.1 h.2.2.1).symm⟩
  · rintro ⟨x, xm, h, rfl⟩
    exact ⟨x, List.mem_filter.2 ⟨xm, decide_eq_true ((five_iff xm).2 h)⟩, tld_hk h.1 h.2.1 h.2.2.1⟩
theorem Wk5.gp {m r : List En} (h : Wk5 fs clock m r) {x : En} {t : Int} (g : Gp r x t) : Gp m x t := by
  obtain ⟨y, hy, k, hM, rfl⟩ := g
  obtain ⟨z, hz, gz, hp⟩ := h.frm y hy (by omega)
  obtain ⟨u, hu, gu, k3⟩ := hasPut_iff.1 (hp k)
  have g := gpE_iff.1 (gpE_trans gu gz)
  exact ⟨u, hu, by omega, mates_trans (mates_of (gpE_trans gu gz)) hM, g.2.2.2.2.2⟩
theorem Wk5.five {m r : List En} (h : Wk5 fs clock m r) (hs : m.Pairwise Ah) (hr : r.Pairwise Ah) (e : En) : e ∈ fiveL fs clock m ↔ e ∈ fiveL fs clock r := by
  rw [five_mem, five_mem]
  constructor
  · rintro ⟨x, hx, ⟨h3, hd, hp, hm, he, ha⟩, rfl⟩
    have hmr : maskOf r x < x.ts := by have := h.mask x; omega
    have hsub : above fs clock r x ≤ above fs clock m x := by
      rw [← ups_len, ← ups_len]
      have := sub_len (desc_nodup (ups_desc (fs := fs) (clock := clock) hr x)) (fun t ht => (ups_mem hs h3 hm he t).2 (by
        have := (ups_mem hr h3 hmr he t).1 ht
        exact ⟨this.1, h.gp this.2⟩))
      omega
    rcases h.alt x hx h3 hd hp hm he with ⟨y, hy, e1, y3, yd, yp⟩ | hf
    · obtain ⟨a1, a2, a3, a4, a5, a6⟩ := hk_inj e1
      have M : mates y x = true := mates_iff.2 ⟨a1, a2, a3⟩
      have g : gpE y x = true := gpE_iff.2 ⟨y3, h3, a1, a2, a3, a4⟩
      refine ⟨y, hy, ⟨y3, yd, yp, ?_, ?_, ?_⟩, e1⟩
      · rw [mask_mates M y3 h3, a4]; exact hmr
      · rw [exp_mates a2 a4]; exact he
      · have : above fs clock r y = above fs clock r x := by
          unfold above
          have : ∀ z, mates z y = mates z x := fun z => by simp only [mates, a1, a2, a3]
          simp only [this, a4]
        rw [this, a2]
        omega
    · have := hf.above hr h3 hmr he
      omega
  · rintro ⟨y, hy, ⟨y3, yd, yp, ym, ye, ya⟩, rfl⟩
    have hmm := h.maskb y hy y3 ym
    obtain ⟨p, hp, gp, kp⟩ := hasPut_iff.1 yp
    obtain ⟨p3, -⟩ := gpE_iff.1 gp
    obtain ⟨z0, hz0, g0, hq⟩ := h.frm p hp p3
    have hput := hq (by omega)
    obtain ⟨z, hz, g1, zd⟩ := decider hs hz0 (gpE_iff.1 g0).1
    have gy : gpE z y = true := gpE_trans g1 (gpE_trans g0 gp)
    obtain ⟨z3, _, b1, b2, b3, b4⟩ := gpE_iff.1 gy
    have Mz := mates_of gy
    have zp : hasPut m z = true := by rw [hasPut_gp g1]; exact hput
    have zm : maskOf m z < z.ts := by rw [mask_mates Mz z3 y3, b4]; exact hmm
    have ze : expS fs clock z = false := by rw [exp_mates b2 b4]; exact ye
    have nofull : ∀ u : En, mates u y = true → y.ts ≤ u.ts → ¬ Full fs r u := fun u hu ht hf => by
      have := (hf.mono (s := r) (y := y) (fun e he => he) hu ht).above hr y3 ym ye
      omega
    rcases h.alt z hz z3 zd zp zm ze with ⟨y', hy', e1, y3', yd', yp'⟩ | hf
    · obtain ⟨a1, a2, a3, a4, a5, a6⟩ := hk_inj e1
      have gg : gpE y' y = true := gpE_iff.2 ⟨y3', y3, a1.trans b1, a2.trans b2, a3.trans b3, a4.trans b4⟩
      have := one_decides hr hy' hy gg yd' yd
      subst this
      refine ⟨z, hz, ⟨z3, zd, zp, zm, ze, ?_⟩, e1.symm⟩
      have hsub : above fs clock m z ≤ above fs clock r y' := by
        rw [← ups_len, ← ups_len]
        refine Int.ofNat_le.2 (sub_len (desc_nodup (ups_desc (fs := fs) (clock := clock) hs z)) (fun t ht => ?_))
        have ht2 := (ups_mem hs z3 zm ze t).1 ht
        refine (ups_mem hr y3 ym ye t).2 ⟨by omega, ?_⟩
        obtain ⟨p, hp, k, hM, rfl⟩ := ht2.2
        obtain ⟨u, hu, gu, ud⟩ := decider hs hp (by omega)
        obtain ⟨u3, _, c1, c2, c3, c4⟩ := gpE_iff.1 gu
        have Mu : mates u z = true := mates_trans (mates_of gu) hM
        have Muy : mates u y' = true := mates_trans Mu Mz
        rcases h.alt u hu u3 ud (hasPut_iff.2 ⟨p, hp, gpE_symm gu, by omega⟩) (by rw [mask_mates Mu u3 z3]; omega) (exp_up (mates_iff.1 Mu).2.1.symm (by omega) ze) with ⟨v, hv, e2, v3, vd, vp⟩ | hf
        · obtain ⟨d1, d2, d3, d4, d5, d6⟩ := hk_inj e2
          obtain ⟨q, hq, gq, kq⟩ := hasPut_iff.1 vp
          obtain ⟨q3, _, f1, f2, f3, f4⟩ := gpE_iff.1 gq
          exact ⟨q, hq, by omega, mates_trans (mates_iff.2 ⟨f1.trans d1, f2.trans d2, f3.trans d3⟩) Muy, by omega⟩
        · exact absurd hf (nofull u Muy (by omega))
      rw [← a2] at *
      omega
    · exact absurd hf (nofull z Mz (by omega))
end
end Go.Proofs.Ythhkpkfpifllkaa

namespace Go.Proofs.Ythhkpkfpifllkaa
open Go.RowKit
set_option linter.unusedVariables false

section
variable {fs : List (Int × Int)} {clock : Int}
theorem maskOf_sub {m r : List En} (h : ∀ y ∈ r, 4 ≤ y.kind → y ∈ m) (x : En) : maskOf r x ≤ maskOf m x :=
  maskOf_mono fun z hz c => ⟨h z hz (by rcases (cover_iff.1 c).2.2 with k | ⟨k, _⟩ <;> omega), c⟩
theorem shadow_sub {m r : List En} (h : ∀ y ∈ r, 4 ≤ y.kind → y ∈ m) {x : En} (hx : shadow m x = false) : shadow r x = false := by
  cases hr : shadow r x with
  | false => rfl
  | true =>
    obtain ⟨y, hy, c, k⟩ := shadow_iff.1 hr
    rw [shadow_iff.2 ⟨y, h y hy (by rcases (cover_iff.1 c).2.2 with k | ⟨k, _⟩ <;> omega), c, k⟩] at hx
    cases hx
theorem hasPut_sub {m r : List En} {x y : En} (h : ∀ e ∈ m, e ∈ r) (g : gpE x y = true) (hx : hasPut m x = true) : hasPut r y = true := by
  obtain ⟨z, hz, gz, k⟩ := hasPut_iff.1 hx
  exact hasPut_iff.2 ⟨z, h z hz, gpE_trans gz g, k⟩
theorem decides_sub {m r : List En} {x : En} (h : ∀ e ∈ m, e ∈ r) (hx : decidesS r x = true) : decidesS m x = true :=
  decides_iff.2 fun z hz g => decides_iff.1 hx z (h z hz) g
structure Red (fs : List (Int × Int)) (clock : Int) (m r : List En) : Prop where
  frm : ∀ y ∈ r, y.kind ≤ 3 → ∃ x ∈ m, gpE x y = true ∧ x.seq = y.seq ∧ (y.kind ≤ 2 → hasPut m x = true)
  marks : ∀ y ∈ r, 4 ≤ y.kind → y ∈ m
  top : ∀ x ∈ m, 4 ≤ x.kind → shadow m x = false → x ∈ r
  alt : ∀ x ∈ m, x.kind ≤ 3 → decidesS m x = true → maskOf m x < x.ts → expS fs clock x = false → (∃ y ∈ r, hk y = hk x ∧ y.kind ≤ 3 ∧ (hasPut m x = true → hasPut r y = true)) ∨ Full fs r x
theorem Red.refl (m : List En) : Red fs clock m m :=
  ⟨fun y hy k => ⟨y, hy, gpE_self k, rfl, fun k2 => hasPut_iff.2 ⟨y, hy, gpE_self k, by omega⟩⟩, fun y hy _ => hy, fun x hx _ _ => hx, fun x hx k _ _ _ => .inl ⟨x, hx, rfl, k, fun h => h⟩⟩
theorem Red.mask {m r : List En} (h : Red fs clock m r) (hs : m.Pairwise Ah) (hv : ∀ e ∈ m, Va e) (x : En) : maskOf r x = maskOf m x := by
  refine Int.le_antisymm (maskOf_sub h.marks x) ?_
  rcases top_mark hs hv x with h0 | ⟨z, hz, c, t, sh⟩
  · rw [h0]; exact maskOf_nn _ _
  · rw [← t]
    exact maskOf_le (h.top z hz (by rcases (cover_iff.1 c).2.2 with k | ⟨k, _⟩ <;> omega) sh) c
theorem Red.dec {m r : List En} (h : Red fs clock m r) {x y : En} (hd : decidesS m x = true) (e : hk y = hk x) (x3 : x.kind ≤ 3) : decidesS r y = true := by
  obtain ⟨a1, a2, a3, a4, a5, a6⟩ := hk_inj e
  refine decides_iff.2 fun z hz g => ?_
  obtain ⟨g1, g2, g3, g4, g5, g6⟩ := gpE_iff.1 g
  obtain ⟨u, hu, gu, sq, _⟩ := h.frm z hz g1
  have := decides_iff.1 hd u hu (gpE_trans gu (gpE_iff.2 ⟨g1, x3, g3.trans a1, g4.trans a2, g5.trans a3, g6.trans a4⟩))
  omega
theorem Red.wk {m r : List En} (h : Red fs clock m r) (hs : m.Pairwise Ah) (hv : ∀ e ∈ m, Va e) : Wk5 fs clock m r := by
  refine ⟨fun y hy k => ?_, fun x => Int.le_of_eq (h.mask hs hv x), fun y hy k t => by rw [← h.mask hs hv y]; exact t, fun x hx k d p t e => ?_⟩
  · obtain ⟨x, hx, g, _, p⟩ := h.frm y hy k
    exact ⟨x, hx, g, p⟩
  · rcases h.alt x hx k d t e with ⟨y, hy, e1, k1, p1⟩ | f
    · exact .inl ⟨y, hy, e1, k1, h.dec d e1 k, p1 p⟩
    · exact .inr f
theorem Red.later {m r : List En} {c : Int} (h : Red fs c m r) (hc : c ≤ clock) : Red fs clock m r :=
  ⟨h.frm, h.marks, h.top, fun x hx k d t e => h.alt x hx k d t (exp_early hc e)⟩
theorem gp_hk {x y : En} (e : hk y = hk x) (x3 : x.kind ≤ 3) (y3 : y.kind ≤ 3) : gpE y x = true := by
  obtain ⟨a1, a2, a3, a4, a5, a6⟩ := hk_inj e
  exact gpE_iff.2 ⟨y3, x3, a1, a2, a3, a4⟩
theorem Red.trans {m r s : List En} (h : Red fs clock m r) (k : Red fs clock r s) (hs : m.Pairwise Ah) (hv : ∀ e ∈ m, Va e) (hr : r.Pairwise Ah) : Red fs clock m s := by
  have nput : ∀ {x y : En}, gpE x y = true → hasPut r x = true → hasPut m y = true := fun {x y} g hp => by
    obtain ⟨z, hz, gz, kz⟩ := hasPut_iff.1 hp
    have z3 := (gpE_iff.1 gz).1
    obtain ⟨u, hu, gu, _, pu⟩ := h.frm z hz z3
    rw [← hasPut_gp (gpE_trans gu (gpE_trans gz g))]
    exact pu (by omega)
  refine ⟨fun y hy y3 => ?_, fun y hy y4 => h.marks y (k.marks y hy y4) y4, fun x hx x4 sh => k.top x (h.top x hx x4 sh) x4 (shadow_sub h.marks sh), fun x hx x3 xd xm xe => ?_⟩
  · obtain ⟨x, hx, g, sq, p⟩ := k.frm y hy y3
    obtain ⟨u, hu, gu, squ, pu⟩ := h.frm x hx (gpE_iff.1 g).1
    exact ⟨u, hu, gpE_trans gu g, squ.trans sq, fun z => nput (gpE_symm gu) (p z)⟩
  · rcases h.alt x hx x3 xd xm xe with ⟨y, hy, e1, y3, yp⟩ | f
    · have g := gp_hk e1 x3 y3
      obtain ⟨g1, g2, g3, g4, g5, g6⟩ := gpE_iff.1 g
      have ym : maskOf r y < y.ts := by rw [h.mask hs hv, mask_mates (mates_of g) y3 x3, g6]; exact xm
      have ye : expS fs clock y = false := by rw [exp_mates g4 g6]; exact xe
      rcases k.alt y hy y3 (h.dec xd e1 x3) ym ye with ⟨z, hz, e2, z3, zp⟩ | f
      · exact .inl ⟨z, hz, e2.trans e1, z3, fun p => zp (yp p)⟩
      · exact .inr (f.mono (fun e he => he) (mates_of g) (by omega))
    · by_cases hf : Full fs s x
      · exact .inr hf
      · right
        obtain ⟨ts, nd, ln, ht⟩ := f
        refine ⟨ts, nd, ln, fun t h1 => ⟨(ht t h1).1, ?_⟩⟩
        obtain ⟨h2, p, hp, kp, hM, rfl⟩ := ht t h1
        obtain ⟨u, hu, gu, ud⟩ := decider hr hp (by omega)
        obtain ⟨u3, _, c1, c2, c3, c4⟩ := gpE_iff.1 gu
        have Mu : mates u x = true := mates_trans (mates_of gu) hM
        rcases k.alt u hu u3 ud (by rw [h.mask hs hv, mask_mates Mu u3 x3]; omega) (exp_up (mates_iff.1 Mu).2.1.symm (by omega) xe) with ⟨v, hv, e2, v3, vp⟩ | f2
        · have gv := gp_hk e2 u3 v3
          obtain ⟨q, hq, gq, kq⟩ := hasPut_iff.1 (vp (hasPut_iff.2 ⟨p, hp, gpE_symm gu, by omega⟩))
          obtain ⟨q3, _, f1, f2, f3, f4⟩ := gpE_iff.1 gq
          obtain ⟨_, _, d1, d2, d3, d4⟩ := gpE_iff.1 gv
          exact ⟨q, hq, by omega, mates_trans (mates_of (gpE_trans gq gv)) Mu, by omega⟩
        · exact absurd (f2.mono (s := s) (y := x) (fun e he => he) Mu (by omega)) hf
theorem Red.union {m1 m2 r1 r2 m r : List En} (h1 : Red fs clock m1 r1) (h2 : Red fs clock m2 r2) (s1 : m1.Pairwise Ah) (s2 : m2.Pairwise Ah) (hm : ∀ e, e ∈ m ↔ e ∈ m1 ∨ e ∈ m2) (hr : ∀ e, e ∈ r ↔ e ∈ r1 ∨ e ∈ r2) : Red fs clock m r := by
  have i1 : ∀ e ∈ m1, e ∈ m := fun e he => (hm e).2 (.inl he)
  have i2 : ∀ e ∈ m2, e ∈ m := fun e he => (hm e).2 (.inr he)
  have j1 : ∀ e ∈ r1, e ∈ r := fun e he => (hr e).2 (.inl he)
  have j2 : ∀ e ∈ r2, e ∈ r := fun e he => (hr e).2 (.inr he)
  have one : ∀ {ma ra mb rb : List En}, Red fs clock ma ra → Red fs clock mb rb → ma.Pairwise Ah → mb.Pairwise Ah → (∀ e ∈ ma, e ∈ m) → (∀ e ∈ mb, e ∈ m) → (∀ e ∈ m, e ∈ ma ∨ e ∈ mb) → (∀ e ∈ ra, e ∈ r) → (∀ e ∈ rb, e ∈ r) → ∀ x ∈ ma, x.kind ≤ 3 → decidesS m x = true → maskOf m x < x.ts → expS fs clock x = false → (∃ y ∈ r, hk y = hk x ∧ y.kind ≤ 3 ∧ (hasPut m x = true → hasPut r y = true)) ∨ Full fs r x := by
    intro ma ra mb rb ha hb sa sb ia ib ie ja jb x hx x3 xd xm xe
    have mka := maskOf_sub (m := m) (r := ma) (fun y hy _ => ia y hy) x
    have mkb := maskOf_sub (m := m) (r := mb) (fun y hy _ => ib y hy) x
    rcases ha.alt x hx x3 (decides_sub ia xd) (by omega) xe with ⟨y, hy, e1, y3, yp⟩ | f
    · have g := gp_hk e1 x3 y3
      by_cases hf : Full fs r x
      · exact .inr hf
      · refine .inl ⟨y, ja y hy, e1, y3, fun p => ?_⟩
        obtain ⟨z, hz, gz, kz⟩ := hasPut_iff.1 p
        rcases ie z hz with q | q
        · exact hasPut_sub ja (gpE_self y3) (yp (hasPut_iff.2 ⟨z, q, gz, kz⟩))
        · obtain ⟨u, hu, gu, ud⟩ := decider sb q (gpE_iff.1 gz).1
          have gx := gpE_trans gu gz
          obtain ⟨u3, _, c1, c2, c3, c4⟩ := gpE_iff.1 gx
          have Mu := mates_of gx
          rcases hb.alt u hu u3 ud (by rw [mask_mates Mu u3 x3]; omega) (by rw [exp_mates c2 c4]; exact xe) with ⟨v, hv, e2, v3, vp⟩ | f2
          · have gv := gp_hk e2 u3 v3
            exact hasPut_sub jb (gpE_trans gv (gpE_trans gx (gpE_symm g))) (vp (hasPut_iff.2 ⟨z, q, gpE_symm gu, kz⟩))
          · exact absurd (f2.mono jb Mu (by omega)) hf
    · exact .inr (f.mono ja (mates_iff.2 ⟨rfl, rfl, rfl⟩) (Int.le_refl _))
  refine ⟨fun y hy y3 => ?_, fun y hy y4 => ?_, fun x hx x4 sh => ?_, fun x hx x3 xd xm xe => ?_⟩
  · rcases (hr y).1 hy with q | q
    · obtain ⟨x, hx, g, sq, p⟩ := h1.frm y q y3
      exact ⟨x, i1 x hx, g, sq, fun z => hasPut_sub i1 (gpE_self (gpE_iff.1 g).1) (p z)⟩
    · obtain ⟨x, hx, g, sq, p⟩ := h2.frm y q y3
      exact ⟨x, i2 x hx, g, sq, fun z => hasPut_sub i2 (gpE_self (gpE_iff.1 g).1) (p z)⟩
  · rcases (hr y).1 hy with q | q
    · exact i1 y (h1.marks y q y4)
    · exact i2 y (h2.marks y q y4)
  · rcases (hm x).1 hx with q | q
    · exact j1 x (h1.top x q x4 (shadow_sub (fun y hy _ => i1 y hy) sh))
    · exact j2 x (h2.top x q x4 (shadow_sub (fun y hy _ => i2 y hy) sh))
  · rcases (hm x).1 hx with q | q
    · exact one h1 h2 s1 s2 i1 i2 (fun e he => (hm e).1 he) j1 j2 x q x3 xd xm xe
    · exact one h2 h1 s2 s1 i2 i1 (fun e he => ((hm e).1 he).symm) j2 j1 x q x3 xd xm xe
theorem full_of {m : List En} (hs : m.Pairwise Ah) {x : En} (x3 : x.kind ≤ 3) (xm : maskOf m x < x.ts) (xe : expS fs clock x = false) (hk0 : 0 ≤ (famAt fs x.fam).1) (ha : (famAt fs x.fam).1 ≤ above fs clock m x) (L : List En) (hL : ∀ y ∈ m, counts fs clock m y = true → mates y x = true → x.ts < y.ts → above fs clock m y + 1 ≤ (famAt fs x.fam).1 → Gp L x y.ts) : Full fs L x := by
  obtain ⟨k, hk⟩ : ∃ k : Nat, (famAt fs x.fam).1 = k := ⟨(famAt fs x.fam).1.toNat, by omega⟩
  obtain ⟨F, hF⟩ : ∃ F, F = m.filter fun y => counts fs clock m y && mates y x && decide (x.ts < y.ts) := ⟨_, rfl⟩
  have hu : ups fs clock m x = F.map En.ts := by rw [hF]; rfl
  have hd := ups_desc (fs := fs) (clock := clock) hs x
  have hlen : (F.length : Int) = above fs clock m x := by rw [← ups_len, hu, List.length_map]
  refine ⟨(F.take k).map En.ts, ?_, ?_, fun t ht => ?_⟩
  · rw [List.map_take, ← hu]
    exact (desc_nodup hd).sublist (List.take_sublist _ _)
  · rw [List.length_map, List.length_take]
    omega
  · obtain ⟨y, hy, rfl⟩ := List.mem_map.1 ht
    have hyF := List.mem_of_mem_take hy
    have h1 := List.mem_filter.1 (hF ▸ hyF)
    simp only [Bool.and_eq_true, decide_eq_true_eq] at h1
    obtain ⟨ym, ⟨yc, yM⟩, yt⟩ := h1
    refine ⟨yt, hL y ym yc yM yt ?_⟩
    obtain ⟨i, hi, ei⟩ := List.mem_take_iff_getElem.1 hy
    have hi2 : i < F.length := by omega
    have e2 : F = F.take i ++ y :: F.drop (i + 1) := by
      rw [← ei, ← List.drop_eq_getElem_cons hi2, List.take_append_drop]
    have hab : above fs clock m y ≤ ((F.take i).length : Int) := by
      have e3 : above fs clock m y = ((F.filter fun z => decide (y.ts < z.ts)).length : Int) := by
        unfold above
        rw [hF, List.filter_filter]
        congr 2
        apply List.filter_congr
        intro z _
        have : mates z y = mates z x := by
          have a := mates_iff.1 yM
          simp only [mates, a.1, a.2.1, a.2.2]
        rw [this]
        cases counts fs clock m z <;> cases mates z x <;> by_cases q : y.ts < z.ts <;> simp [q]
        omega
      rw [e3]
      refine Int.ofNat_le.2 ?_
      rw [hu, e2, List.map_append, List.map_cons] at hd
      have hp := List.pairwise_append.1 hd
      have hq := List.pairwise_cons.1 hp.2.1
      have : (F.filter fun z => decide (y.ts < z.ts)) = (F.take i).filter fun z => decide (y.ts < z.ts) := by
        conv => lhs; rw [e2]
        rw [List.filter_append]
        have : (y :: F.drop (i + 1)).filter (fun z => decide (y.ts < z.ts)) = [] := List.filter_eq_nil_iff.2 fun z hz => by
          rcases List.mem_cons.1 hz with rfl | hz
          · simp
          · have := hq.1 z.ts (List.mem_map_of_mem hz)
            simp; omega
        rw [this, List.append_nil]
      rw [this]
      exact List.length_filter_le _ _
    rw [List.length_take] at hab
    omega
theorem red_left {m : List En} {low : Int} (hs : m.Pairwise Ah) (hv : ∀ e ∈ m, Va e) (hM : ∀ i, 0 ≤ (famAt fs i).1) : Red fs clock m (leftL fs clock m false low) := by
  have kept5 : ∀ y ∈ m, counts fs clock m y = true → above fs clock m y + 1 ≤ (famAt fs y.fam).1 → hk y ∈ leftL fs clock m false low := fun y hy hc ha => by
    have c := (counts_put hy).1 hc
    refine left_mem.2 ⟨y, hy, five_stays ((five_iff hy).2 ⟨c.1, c.2.1, c.2.2.1, c.2.2.2.1, c.2.2.2.2, ha⟩) false, tld_hk c.1 c.2.1 c.2.2.1⟩
  refine ⟨fun y hy y3 => ?_, fun y hy y4 => ?_, fun x hx x4 sh => ?_, fun x hx x3 xd xm xe => ?_⟩
  · obtain ⟨x, hx, p, rfl⟩ := left_mem.1 hy
    obtain ⟨a1, a2, a3, a4, a5, a6, a7⟩ := tld_eq m x
    have x3 : x.kind ≤ 3 := by omega
    refine ⟨x, hx, gpE_iff.2 ⟨x3, y3, a1.symm, a2.symm, a3.symm, a4.symm⟩, a5.symm, fun k => ?_⟩
    have st := stays_ver x3 p
    rw [tld_ver x3 st.1] at k
    exact (kd_put hx x3).1 (by simp only at k; omega)
  · obtain ⟨x, hx, p, rfl⟩ := left_mem.1 hy
    obtain ⟨a1, a2, a3, a4, a5, a6, a7⟩ := tld_eq m x
    have x4 : 4 ≤ x.kind := by omega
    have : tld m x = x := by unfold tld; rw [if_pos x4]
    rw [this]; exact hx
  · refine left_mem.2 ⟨x, hx, ?_, by unfold tld; rw [if_pos x4]⟩
    rw [sv_mark x4, sh]
    simp [staysS]
  · cases hp : hasPut m x with
    | false =>
      have k3 : kd m x = 3 := by
        by_cases z : kd m x = 3
        · exact z
        · rw [(kd_put hx x3).1 z] at hp; cases hp
      have x33 : x.kind = 3 := by
        by_cases z : x.kind = 3
        · exact z
        · rw [hasPut_iff.2 ⟨x, hx, gpE_self x3, z⟩] at hp; cases hp
      refine .inl ⟨tld m x, left_mem.2 ⟨x, hx, ?_, rfl⟩, ?_, ?_, fun z => by cases z⟩
      · rw [sv_ver x3 xd xm xe, if_pos k3]; simp [staysS]
      · rw [tld_ver x3 xd, k3]
        unfold hk
        simp [x33]
      · rw [tld_ver x3 xd, k3]; exact Int.le_refl _
    | true =>
      by_cases ha : above fs clock m x + 1 ≤ (famAt fs x.fam).1
      · have h5 := kept5 x hx ((counts_put hx).2 ⟨x3, xd, hp, xm, xe⟩) ha
        obtain ⟨b1, b2, b3, b4, b5, b6, b7⟩ := hk_eq x
        refine .inl ⟨hk x, h5, ?_, by omega, fun _ => hasPut_iff.2 ⟨hk x, h5, gpE_self (by omega), by omega⟩⟩
        unfold hk
        by_cases z : x.kind = 3 <;> simp [z]
      · right
        refine full_of hs x3 xm xe (hM _) (by omega) _ fun y hy yc yM yt ya => ?_
        have f : y.fam = x.fam := (mates_iff.1 yM).2.1
        have h5 := kept5 y hy yc (by rw [f]; exact ya)
        have k3 := (counts_put hy).1 yc
        obtain ⟨b1, b2, b3, b4, b5, b6, b7⟩ := hk_eq y
        have yM' := mates_iff.1 yM
        exact ⟨hk y, h5, by omega, mates_iff.2 ⟨b1.trans yM'.1, b2.trans yM'.2.1, b3.trans yM'.2.2⟩, b4⟩
end
end Go.Proofs.Ythhkpkfpifllkaa

namespace Go.Proofs.Ythhkpkfpifllkaa
open Go.RowKit
set_option linter.unusedVariables false

section
variable {fs : List (Int × Int)} {clock : Int}
def rankIn (E : List En) (e : En) : Int := ((E.filter fun y => mates y e && decide (e.ts < y.ts)).length : Int) + 1
def isFive (v : Vd) : Bool := decide (v.fate = 5)
theorem sv_five {m : List En} {x : En} (hx : x ∈ m) (h : (sv fs clock m x).fate = 5) : sv fs clock m x = ⟨tld m x, 5, above fs clock m x + 1⟩ := by
  obtain ⟨h3, hd, hp, hm, he, ha⟩ := (five_iff hx).1 h
  rw [sv_ver h3 hd hm he, if_neg ((kd_put hx h3).2 hp), if_neg (by omega), tld_ver h3 hd]
theorem five_above {m : List En} (hs : m.Pairwise Ah) {x : En} (hx : x ∈ m) (h : (sv fs clock m x).fate = 5) : above fs clock m x + 1 = rankIn (fiveL fs clock m) (tld m x) := by
  obtain ⟨h3, hd, hp, hm, he, ha⟩ := (five_iff hx).1 h
  obtain ⟨a1, a2, a3, a4, a5, a6, a7⟩ := tld_eq m x
  unfold rankIn fiveL above
  rw [List.filter_map, List.length_map, List.filter_filter]
  congr 3
  apply List.filter_congr
  intro y hy
  obtain ⟨b1, b2, b3, b4, b5, b6, b7⟩ := tld_eq m y
  have em : mates (tld m y) (tld m x) = mates y x := by simp only [mates, a1, a2, a3, b1, b2, b3]
  simp only [Function.comp, em, a4, b4]
  rw [Bool.eq_iff_iff]
  simp only [Bool.and_eq_true, decide_eq_true_eq]
  constructor
  · rintro ⟨⟨c, M⟩, t⟩
    have cc := (counts_put hy).1 c
    have := above_le (fs := fs) (clock := clock) (m := m) M t
    have f := (mates_iff.1 M).2.1
    exact ⟨⟨M, t⟩, (five_iff hy).2 ⟨cc.1, cc.2.1, cc.2.2.1, cc.2.2.2.1, cc.2.2.2.2, by rw [f]; omega⟩⟩
  · rintro ⟨⟨M, t⟩, c⟩
    have cc := (five_iff hy).1 c
    exact ⟨⟨(counts_put hy).2 ⟨cc.1, cc.2.1, cc.2.2.1, cc.2.2.2.1, cc.2.2.2.2.1⟩, M⟩, t⟩
theorem five_vd {m : List En} (hs : m.Pairwise Ah) (hv : ∀ e ∈ m, Va e) : (verdictsS fs clock m).filter isFive = (fiveL fs clock m).map fun e => ⟨e, 5, rankIn (fiveL fs clock m) e⟩ := by
  have e1 : ∀ l : List Vd, l.filter isFive = (l.filter kept).filter isFive := fun l => by
    rw [List.filter_filter]
    apply List.filter_congr
    intro v _
    cases h : isFive v with
    | false => rfl
    | true =>
      have : kept v = true := by
        unfold isFive at h
        unfold kept
        simp only [decide_eq_true_eq] at h ⊢
        omega
      rw [this]; rfl
  rw [e1, verdicts_spec hs hv, ← e1, List.filter_map]
  conv => rhs; rw [fiveL]
  rw [List.map_map]
  have : (fun x => decide ((sv fs clock m x).fate = 5)) = isFive ∘ sv fs clock m := rfl
  rw [this]
  apply List.map_congr_left
  intro x hx
  obtain ⟨xm, hx⟩ := List.mem_filter.1 hx
  have h5 : (sv fs clock m x).fate = 5 := of_decide_eq_true hx
  rw [sv_five xm h5, five_above hs xm h5]
  rfl
theorem five_sorted {m : List En} (hs : m.Pairwise Ah) : (fiveL fs clock m).Pairwise Ah := tld_sorted hs _
theorem show_filter (tm n : Int) : ∀ (vs : List Vd) (s : Int × List En), (∀ v ∈ vs, v.rank = 1 → v.fate = 5) → (vs.filter isFive).foldl (showStep tm n) s = vs.foldl (showStep tm n) s
  | [], s, _ => rfl
  | v :: vs, s, h => by
    have ih := fun s => show_filter tm n vs s (fun v hv => h v (List.mem_cons_of_mem _ hv))
    by_cases h5 : v.fate = 5
    · have : isFive v = true := by unfold isFive; simp [h5]
      rw [List.filter_cons_of_pos this, List.foldl_cons, List.foldl_cons, ih]
    · have : ¬ isFive v = true := by unfold isFive; simp [h5]
      rw [List.filter_cons_of_neg this, List.foldl_cons, ih]
      have hr : v.rank ≠ 1 := fun z => h5 (h v List.mem_cons_self z)
      congr 1
      unfold showStep
      rw [if_neg (fun z => h5 z.1), if_neg hr]
theorem dec_rank {s : Sp} {e : En} (h : 0 < (decideS fs clock s e).1.rank) : (decideS fs clock s e).1.fate ≠ 1 := by
  unfold decideS at h ⊢
  repeat' split
  all_goals simp
theorem sv_rank {m : List En} {x : En} (hx : x ∈ m) (h : 0 < (sv fs clock m x).rank) : counts fs clock m x = true := by
  unfold sv at h
  by_cases k : 4 ≤ x.kind
  · rw [if_pos k] at h; simp at h
  · rw [if_neg k] at h
    cases hd : decidesS m x with
    | false => rw [hd] at h; simp at h
    | true =>
      rw [hd, if_pos rfl] at h
      unfold decideS at h
      simp only at h
      by_cases h1 : x.ts ≤ maskOf m x
      · rw [if_pos h1] at h; simp at h
      · rw [if_neg h1] at h
        by_cases h2 : 0 < (famAt fs x.fam).2 ∧ x.ts + (famAt fs x.fam).2 ≤ clock
        · rw [if_pos h2] at h; simp at h
        · rw [if_neg h2] at h
          by_cases h3 : kd m x = 3
          · rw [if_pos h3] at h; simp at h
          · exact counts_iff.2 ⟨by omega, hd, h3, by omega, by simpa [expS] using h2⟩
theorem verd_rank (l : List En) : ∀ v ∈ verdictsS fs clock l, 0 < v.rank → v.fate ≠ 1 := by
  have res : ∀ (s : Sp) (k : Int), ∀ v ∈ (resolveS fs clock s k).1, 0 < v.rank → v.fate ≠ 1 := by
    intro s k
    unfold resolveS
    split
    · intro v hv
      rw [List.mem_singleton] at hv
      rw [hv]
      exact dec_rank
    · intro v hv; cases hv
  have ent : ∀ (s : Sp) (e : En), ∀ v ∈ (enterS fs clock s e).1, 0 < v.rank → v.fate ≠ 1 := by
    intro s e
    unfold enterS
    split
    · intro v hv; cases hv
    · exact res s 3
  have step : ∀ (s : Sp) (e : En), ∀ v ∈ (stepS fs clock s e).1, 0 < v.rank → v.fate ≠ 1 := by
    intro s e
    have h1 := ent s e
    have z : ∀ v : Vd, v.rank = 0 → 0 < v.rank → v.fate ≠ 1 := fun v h k => by omega
    unfold stepS
    intro v hv
    split at hv
    · rcases List.mem_append.1 hv with q | q
      · exact h1 v q
      · rw [List.mem_singleton] at q
        refine z v ?_
        rw [q]
        unfold stretchS
        split <;> rfl
    · split at hv
      · split at hv
        · rcases List.mem_append.1 hv with q | q
          · exact h1 v q
          · rcases List.mem_append.1 q with q | q
            · exact res _ _ v q
            · rw [List.mem_singleton] at q
              exact z v (by rw [q])
        · rcases List.mem_append.1 hv with q | q
          · exact h1 v q
          · rw [List.mem_singleton] at q
            exact z v (by rw [q])
      · split at hv
        · exact h1 v hv
        · rcases List.mem_append.1 hv with q | q
          · exact h1 v q
          · rw [List.mem_singleton] at q
            rw [q]
            exact dec_rank
  have walk : ∀ (l : List En) (s : Sp), ∀ v ∈ (walkS fs clock s l).1, 0 < v.rank → v.fate ≠ 1 := by
    intro l
    induction l with
    | nil => intro s v hv; cases hv
    | cons e l ih =>
      intro s v hv
      rcases List.mem_append.1 hv with q | q
      · exact step s e v q
      · exact ih _ v q
  intro v hv
  rcases List.mem_append.1 hv with q | q
  · exact walk l _ v q
  · exact res _ _ v q
theorem verd_one {m : List En} (hs : m.Pairwise Ah) (hv : ∀ e ∈ m, Va e) (hM : ∀ e ∈ m, 1 ≤ (famAt fs e.fam).1) : ∀ v ∈ verdictsS fs clock m, v.rank = 1 → v.fate = 5 := fun v hv1 r1 => by
  have : v ∈ (verdictsS fs clock m).filter kept := List.mem_filter.2 ⟨hv1, by unfold kept; simpa using verd_rank m v hv1 (by omega)⟩
  rw [verdicts_spec hs hv] at this
  obtain ⟨x, hx, rfl⟩ := List.mem_map.1 (List.mem_filter.1 this).1
  have c := (counts_put hx).1 (sv_rank (fs := fs) (clock := clock) hx (by rw [r1]; decide))
  rw [sv_ver c.1 c.2.1 c.2.2.2.1 c.2.2.2.2, if_neg ((kd_put hx c.1).2 c.2.2.1)] at r1 ⊢
  have := hM x hx
  simp only at r1 ⊢
  rw [if_neg (by omega)]
theorem show_five {m : List En} (hM : ∀ e ∈ m, 1 ≤ (famAt fs e.fam).1) (hs : m.Pairwise Ah) (hv : ∀ e ∈ m, Va e) (tm n : Int) : showS tm n (verdictsS fs clock m) = showS tm n ((fiveL fs clock m).map fun e => ⟨e, 5, rankIn (fiveL fs clock m) e⟩) := by
  rw [← five_vd hs hv]
  exact (show_filter tm n _ _ (verd_one hs hv hM)).symm
theorem topS_le : ∀ (vs : List Vd) (v : Vd), v ∈ vs → 0 < v.rank → v.e.ts ≤ topS vs := by
  have key : ∀ (vs : List Vd) (a : Int), a ≤ vs.foldl (fun m v => if 0 < v.rank then max m v.e.ts else m) a ∧ ∀ v ∈ vs, 0 < v.rank → v.e.ts ≤ vs.foldl (fun m v => if 0 < v.rank then max m v.e.ts else m) a := by
    intro vs
    induction vs with
    | nil => intro a; exact ⟨Int.le_refl _, fun v hv => by cases hv⟩
    | cons v vs ih =>
      intro a
      rw [List.foldl_cons]
      have := ih (if 0 < v.rank then max a v.e.ts else a)
      refine ⟨?_, fun u hu h => ?_⟩
      · refine Int.le_trans ?_ this.1
        split <;> omega
      · rcases List.mem_cons.1 hu with rfl | hu
        · refine Int.le_trans ?_ this.1
          rw [if_pos h]; omega
        · exact this.2 u hu h
  intro vs v hv h
  exact (key vs 0).2 v hv h
theorem topS_att (vs : List Vd) : topS vs = 0 ∨ ∃ v ∈ vs, 0 < v.rank ∧ v.e.ts = topS vs := by
  have key : ∀ (vs : List Vd) (a : Int), vs.foldl (fun m v => if 0 < v.rank then max m v.e.ts else m) a = a ∨ ∃ v ∈ vs, 0 < v.rank ∧ v.e.ts = vs.foldl (fun m v => if 0 < v.rank then max m v.e.ts else m) a := by
    intro vs
    induction vs with
    | nil => intro a; exact .inl rfl
    | cons v vs ih =>
      intro a
      rw [List.foldl_cons]
      rcases ih (if 0 < v.rank then max a v.e.ts else a) with h | ⟨u, hu, h1, h2⟩
      · rw [h]
        by_cases z : 0 < v.rank
        · rw [if_pos z]
          by_cases y : a ≤ v.e.ts
          · exact .inr ⟨v, List.mem_cons_self, z, by omega⟩
          · exact .inl (by omega)
        · rw [if_neg z]; exact .inl rfl
      · exact .inr ⟨u, List.mem_cons_of_mem _ hu, h1, h2⟩
  exact key vs 0
theorem topS_nn (vs : List Vd) : (∀ v ∈ vs, 0 < v.rank → 0 ≤ v.e.ts) → 0 ≤ topS vs := fun h => by
  rcases topS_att vs with e | ⟨v, hv, h1, h2⟩
  · omega
  · have := h v hv h1; omega
theorem five_over {m : List En} (hM : ∀ e ∈ m, 1 ≤ (famAt fs e.fam).1) (hs : m.Pairwise Ah) {x : En} (hx : x ∈ m) (hc : counts fs clock m x = true) : ∃ y ∈ m, (sv fs clock m y).fate = 5 ∧ x.ts ≤ y.ts := by
  obtain ⟨n, hn⟩ : ∃ n : Nat, above fs clock m x = n := ⟨(above fs clock m x).toNat, (Int.toNat_of_nonneg (by unfold above; omega)).symm⟩
  induction n using Nat.strongRecOn generalizing x with
  | _ n ih =>
    have cc := (counts_put hx).1 hc
    by_cases h0 : n = 0
    · exact ⟨x, hx, (five_iff hx).2 ⟨cc.1, cc.2.1, cc.2.2.1, cc.2.2.2.1, cc.2.2.2.2, by have := hM x hx; omega⟩, Int.le_refl _⟩
    · have hl : ((ups fs clock m x).length : Int) = n := by rw [ups_len, hn]
      obtain ⟨t, ht⟩ := List.exists_mem_of_length_pos (l := ups fs clock m x) (by omega)
      obtain ⟨y, hy, rfl⟩ := List.mem_map.1 ht
      obtain ⟨ym, hy⟩ := List.mem_filter.1 hy
      simp only [Bool.and_eq_true, decide_eq_true_eq] at hy
      have hlt : above fs clock m y < n := by
        rw [← hn, ← ups_len, ← ups_len]
        have nd := desc_nodup (ups_desc (fs := fs) (clock := clock) hs y)
        have yM := mates_iff.1 hy.1.2
        have : (y.ts :: ups fs clock m y).length ≤ (ups fs clock m x).length := by
          refine sub_len (List.nodup_cons.2 ⟨fun z => ?_, nd⟩) fun t ht => ?_
          · obtain ⟨u, hu, e⟩ := List.mem_map.1 z
            have := (List.mem_filter.1 hu).2
            simp only [Bool.and_eq_true, decide_eq_true_eq] at this
            omega
          · rcases List.mem_cons.1 ht with rfl | ht
            · exact List.mem_map.2 ⟨y, List.mem_filter.2 ⟨ym, by simp [hy]⟩, rfl⟩
            · obtain ⟨u, hu, e⟩ := List.mem_map.1 ht
              obtain ⟨um, hu⟩ := List.mem_filter.1 hu
              simp only [Bool.and_eq_true, decide_eq_true_eq] at hu
              refine List.mem_map.2 ⟨u, List.mem_filter.2 ⟨um, ?_⟩, e⟩
              simp only [Bool.and_eq_true, decide_eq_true_eq]
              exact ⟨⟨hu.1.1, mates_trans hu.1.2 hy.1.2⟩, by omega⟩
        simp only [List.length_cons] at this
        omega
      have hn' : above fs clock m y = ((above fs clock m y).toNat : Nat) := by
        have : 0 ≤ above fs clock m y := by unfold above; omega
        omega
      obtain ⟨z, hz, z5, zt⟩ := ih (above fs clock m y).toNat (by omega) ym hy.1.1 hn'
      exact ⟨z, hz, z5, by omega⟩
theorem top_five {m r : List En} (hM : ∀ e ∈ m, 1 ≤ (famAt fs e.fam).1) (hs : m.Pairwise Ah) (hv : ∀ e ∈ m, Va e) (hs' : r.Pairwise Ah) (hv' : ∀ e ∈ r, Va e) (h : ∀ e, e ∈ fiveL fs clock m → e ∈ fiveL fs clock r) : topS (verdictsS fs clock m) ≤ topS (verdictsS fs clock r) := by
  have nn : 0 ≤ topS (verdictsS fs clock r) := topS_nn _ fun v hv h => by
    have : v ∈ (verdictsS fs clock r).filter kept := List.mem_filter.2 ⟨hv, by unfold kept; simpa using verd_rank r v hv h⟩
    rw [verdicts_spec hs' hv'] at this
    obtain ⟨x, hx, rfl⟩ := List.mem_map.1 (List.mem_filter.1 this).1
    rw [sv_e, (tld_eq r x).2.2.2.1]
    have := (hv' x hx).ts
    omega
  rcases topS_att (verdictsS fs clock m) with e | ⟨v, hv1, r1, t1⟩
  · omega
  · have : v ∈ (verdictsS fs clock m).filter kept := List.mem_filter.2 ⟨hv1, by unfold kept; simpa using verd_rank m v hv1 r1⟩
    rw [verdicts_spec hs hv] at this
    obtain ⟨x, hx, rfl⟩ := List.mem_map.1 (List.mem_filter.1 this).1
    obtain ⟨y, hy, y5, yt⟩ := five_over hM hs hx (sv_rank hx r1)
    have hyE : tld m y ∈ fiveL fs clock m := List.mem_map.2 ⟨y, List.mem_filter.2 ⟨hy, decide_eq_true y5⟩, rfl⟩
    have hyR := h _ hyE
    have : (⟨tld m y, 5, rankIn (fiveL fs clock r) (tld m y)⟩ : Vd) ∈ (verdictsS fs clock r).filter isFive := by
      rw [five_vd hs' hv']
      exact List.mem_map.2 ⟨tld m y, hyR, rfl⟩
    have := topS_le _ _ (List.mem_filter.1 this).1 (by simp only; unfold rankIn; omega)
    simp only [(tld_eq m y).2.2.2.1] at this
    rw [sv_e, (tld_eq m x).2.2.2.1] at t1
    omega
theorem Wk5.seen {m r : List En} (h : Wk5 fs clock m r) (hM : ∀ e ∈ m, 1 ≤ (famAt fs e.fam).1) (hM' : ∀ e ∈ r, 1 ≤ (famAt fs e.fam).1) (hs : m.Pairwise Ah) (hv : ∀ e ∈ m, Va e) (hr : r.Pairwise Ah) (hw : ∀ e ∈ r, Va e) :
    fiveL fs clock m = fiveL fs clock r ∧ (∀ tm n, showS tm n (verdictsS fs clock m) = showS tm n (verdictsS fs clock r)) ∧ topS (verdictsS fs clock m) = topS (verdictsS fs clock r) := by
  have e := ord_unique (five_sorted (fs := fs) (clock := clock) hs) (five_sorted (fs := fs) (clock := clock) hr) (h.five hs hr)
  refine ⟨e, fun tm n => ?_, Int.le_antisymm (top_five hM hs hv hr hw (fun x hx => e ▸ hx)) (top_five hM' hr hw hs hv (fun x hx => e ▸ hx))⟩
  rw [show_five hM hs hv, show_five hM' hr hw, e]
theorem major_mem {m : List En} {low : Int} {z : En} : z ∈ leftL fs clock m true low ↔ z ∈ fiveL fs clock m ∨ (z ∈ m ∧ 4 ≤ z.kind ∧ shadow m z = false ∧ low < z.ts) := by
  rw [left_mem]
  constructor
  · rintro ⟨x, hx, p, rfl⟩
    by_cases k : x.kind ≤ 3
    · exact .inl (List.mem_map.2 ⟨x, List.mem_filter.2 ⟨hx, decide_eq_true (major_five k p)⟩, rfl⟩)
    · have k4 : 4 ≤ x.kind := by omega
      have sh := stays_mark k4 p
      have e : tld m x = x := by unfold tld; rw [if_pos k4]
      rw [sv_mark k4, sh] at p
      simp [staysS] at p
      rw [e]
      exact .inr ⟨hx, k4, sh, p⟩
  · rintro (h | ⟨hx, k4, sh, t⟩)
    · obtain ⟨x, hx, rfl⟩ := List.mem_map.1 h
      obtain ⟨xm, h5⟩ := List.mem_filter.1 hx
      exact ⟨x, xm, five_stays (of_decide_eq_true h5) true, rfl⟩
    · refine ⟨z, hx, ?_, by unfold tld; rw [if_pos k4]⟩
      rw [sv_mark k4, sh]
      simp [staysS, t]
theorem Red.major {m r : List En} (h : Red fs clock m r) (hs : m.Pairwise Ah) (hv : ∀ e ∈ m, Va e) (hr : r.Pairwise Ah) (low : Int) : leftL fs clock r true low = leftL fs clock m true low := by
  refine ord_unique (tld_sorted hr _) (tld_sorted hs _) fun z => ?_
  show z ∈ leftL fs clock r true low ↔ z ∈ leftL fs clock m true low
  rw [major_mem, major_mem, ← (h.wk hs hv).five hs hr z]
  have : (z ∈ r ∧ 4 ≤ z.kind ∧ shadow r z = false ∧ low < z.ts) ↔ (z ∈ m ∧ 4 ≤ z.kind ∧ shadow m z = false ∧ low < z.ts) := by
    constructor
    · rintro ⟨a, b, c, d⟩
      have am := h.marks z a b
      refine ⟨am, b, ?_, d⟩
      cases sh : shadow m z with
      | false => rfl
      | true =>
        exfalso
        obtain ⟨y, hy, cy, k⟩ := shadow_iff.1 sh
        rcases top_mark hs hv z with h0 | ⟨w, hw, cw, tw, sw⟩
        · have := maskOf_le hy cy
          have := (hv y hy).ts
          omega
        · have wr := h.top w hw (by rcases (cover_iff.1 cw).2.2 with q | ⟨q, _⟩ <;> omega) sw
          have hy1 := maskOf_le hy cy
          have cw' := cover_iff.1 cw
          have cy' := cover_iff.1 cy
          have bt : z.ts < w.ts ∨ z.ts = w.ts ∧ (z.kind < w.kind ∨ z.seq < w.seq) := by
            by_cases e1 : z.ts < w.ts
            · exact .inl e1
            · right
              have e2 : z.ts = w.ts := by omega
              have e3 : y.ts = w.ts := by omega
              refine ⟨e2, ?_⟩
              by_cases e4 : z.kind < w.kind
              · exact .inl e4
              · right
                have cyw : cover y w = true := cover_iff.2 ⟨cy'.1.trans cw'.1.symm, cy'.2.1.trans cw'.2.1.symm, by
                  rcases cw'.2.2 with q | ⟨q, q5, qq⟩
                  · rcases cy'.2.2 with p | ⟨p, p5, pq⟩
                    · exact .inl p
                    · have := (hv z am).k5
                      omega
                  · rcases cy'.2.2 with p | ⟨p, p5, pq⟩
                    · exact .inl p
                    · exact .inr ⟨p, by omega, pq.trans qq.symm⟩⟩
                have nb : ¬ (w.ts < y.ts ∨ w.ts = y.ts ∧ (w.kind < y.kind ∨ w.seq < y.seq)) := fun q => by
                  rw [shadow_iff.2 ⟨y, hy, cyw, q⟩] at sw
                  cases sw
                have wk : w.kind = 5 ∨ w.kind = 4 := by rcases cw'.2.2 with q | ⟨q, _⟩ <;> omega
                have yk : y.kind = 5 ∨ y.kind = 4 := by rcases cy'.2.2 with q | ⟨q, _⟩ <;> omega
                omega
          rw [shadow_iff.2 ⟨w, wr, cw, bt⟩] at c
          cases c
    · rintro ⟨a, b, c, d⟩
      exact ⟨h.top z a b c, b, shadow_sub h.marks c, d⟩
  rw [this]
end
end Go.Proofs.Ythhkpkfpifllkaa

namespace Go.Proofs.Ythhkpkfpifllkaa
open Go.RowKit
set_option linter.unusedVariables false

section
variable {fs : List (Int × Int)} {c d : Int}
theorem nothing_back {m M : List En} (hc : c ≤ d) (hs : m.Pairwise Ah) (hS : M.Pairwise Ah) (sub : ∀ e ∈ m, e ∈ M) {x : En} (hx : x ∈ m) (k : x.kind = 1) (h : (sv fs d M x).fate = 5) : (sv fs c m x).fate = 5 := by
  obtain ⟨h3, hd, hp, hm, he, ha⟩ := (five_iff (sub x hx)).1 h
  have hm' : maskOf m x < x.ts := by have := maskOf_sub (m := M) (r := m) (fun y hy _ => sub y hy) x; omega
  have he' := exp_early hc he
  refine (five_iff hx).2 ⟨h3, decides_sub sub hd, hasPut_iff.2 ⟨x, hx, gpE_self h3, by omega⟩, hm', he', ?_⟩
  have : above fs c m x ≤ above fs d M x := by
    rw [← ups_len, ← ups_len]
    refine Int.ofNat_le.2 (sub_len (desc_nodup (ups_desc (fs := fs) (clock := c) hs x)) fun t ht => ?_)
    have := (ups_mem hs h3 hm' he' t).1 ht
    exact (ups_mem hS h3 hm he t).2 ⟨this.1, this.2.mono sub (mates_iff.2 ⟨rfl, rfl, rfl⟩)⟩
  omega
theorem left_or_full {m : List En} {low : Int} {major : Bool} (hs : m.Pairwise Ah) (hM : ∀ i, 0 ≤ (famAt fs i).1) {x : En} (hx : x ∈ m) (x3 : x.kind ≤ 3) (xd : decidesS m x = true) (hp : hasPut m x = true) (xm : maskOf m x < x.ts) (xe : expS fs c x = false) : hk x ∈ leftL fs c m major low ∨ Full fs (leftL fs c m major low) x := by
  have kept5 : ∀ y ∈ m, counts fs c m y = true → above fs c m y + 1 ≤ (famAt fs y.fam).1 → hk y ∈ leftL fs c m major low := fun y hy hc ha => by
    have c := (counts_put hy).1 hc
    refine left_mem.2 ⟨y, hy, five_stays ((five_iff hy).2 ⟨c.1, c.2.1, c.2.2.1, c.2.2.2.1, c.2.2.2.2, ha⟩) major, tld_hk c.1 c.2.1 c.2.2.1⟩
  by_cases ha : above fs c m x + 1 ≤ (famAt fs x.fam).1
  · exact .inl (kept5 x hx ((counts_put hx).2 ⟨x3, xd, hp, xm, xe⟩) ha)
  · right
    refine full_of hs x3 xm xe (hM _) (by omega) _ fun y hy yc yM yt ya => ?_
    have f : y.fam = x.fam := (mates_iff.1 yM).2.1
    have h5 := kept5 y hy yc (by rw [f]; exact ya)
    have k3 := (counts_put hy).1 yc
    obtain ⟨b1, b2, b3, b4, b5, b6, b7⟩ := hk_eq y
    have yM' := mates_iff.1 yM
    exact ⟨hk y, h5, by omega, mates_iff.2 ⟨b1.trans yM'.1, b2.trans yM'.2.1, b3.trans yM'.2.2⟩, b4⟩
theorem hk_hk (x : En) : hk (hk x) = hk x := by
  unfold hk
  by_cases z : x.kind = 3 <;> simp [z]
theorem major_wk {m b M R : List En} {low : Int} (hc : c ≤ d) (hs : m.Pairwise Ah) (hv : ∀ e ∈ m, Va e) (hM : ∀ i, 0 ≤ (famAt fs i).1) (hm : ∀ e, e ∈ M ↔ e ∈ m ∨ e ∈ b) (hr : ∀ e, e ∈ R ↔ e ∈ leftL fs c m true low ∨ e ∈ b) (hb : ∀ y ∈ b, low < y.ts ∧ ∀ x ∈ m, x.seq < y.seq) : Wk5 fs d M R := by
  have iM : ∀ e ∈ m, e ∈ M := fun e he => (hm e).2 (.inl he)
  have lR : ∀ e ∈ leftL fs c m true low, e ∈ R := fun e he => (hr e).2 (.inl he)
  have bR : ∀ e ∈ b, e ∈ R := fun e he => (hr e).2 (.inr he)
  have bM : ∀ e ∈ b, e ∈ M := fun e he => (hm e).2 (.inr he)
  have lm : ∀ y ∈ leftL fs c m true low, y.kind ≤ 3 → ∃ x ∈ m, gpE x y = true ∧ x.seq = y.seq ∧ maskOf m x < x.ts ∧ (y.kind ≤ 2 → hasPut m x = true) := fun y hy y3 => by
    obtain ⟨x, hx, p, rfl⟩ := left_mem.1 hy
    obtain ⟨a1, a2, a3, a4, a5, a6, a7⟩ := tld_eq m x
    have x3 : x.kind ≤ 3 := by omega
    have st := stays_ver x3 p
    refine ⟨x, hx, gpE_iff.2 ⟨x3, y3, a1.symm, a2.symm, a3.symm, a4.symm⟩, a5.symm, st.2.1, fun k => ?_⟩
    rw [tld_ver x3 st.1] at k
    exact (kd_put hx x3).1 (by simp only at k; omega)
  have lmk : ∀ y ∈ R, 4 ≤ y.kind → y ∈ M := fun y hy y4 => by
    rcases (hr y).1 hy with q | q
    · obtain ⟨x, hx, p, rfl⟩ := left_mem.1 q
      obtain ⟨a1, a2, a3, a4, a5, a6, a7⟩ := tld_eq m x
      have : tld m x = x := by unfold tld; rw [if_pos (by omega)]
      rw [this]; exact iM x hx
    · exact bM y q
  have dR : ∀ x ∈ M, ∀ y : En, hk y = hk x → x.kind ≤ 3 → decidesS M x = true → decidesS R y = true := fun x hx y e x3 hd => by
    obtain ⟨a1, a2, a3, a4, a5, a6⟩ := hk_inj e
    refine decides_iff.2 fun z hz g => ?_
    obtain ⟨g1, g2, g3, g4, g5, g6⟩ := gpE_iff.1 g
    have gx : gpE z x = true := gpE_iff.2 ⟨g1, x3, g3.trans a1, g4.trans a2, g5.trans a3, g6.trans a4⟩
    rcases (hr z).1 hz with q | q
    · obtain ⟨u, hu, gu, sq, _⟩ := lm z q g1
      have := decides_iff.1 hd u (iM u hu) (gpE_trans gu gx)
      omega
    · have := decides_iff.1 hd z (bM z q) gx
      omega
  refine ⟨fun y hy y3 => ?_, maskOf_sub lmk, fun y hy y3 ym => ?_, fun x hx x3 xd xp xm xe => ?_⟩
  · rcases (hr y).1 hy with q | q
    · obtain ⟨x, hx, g, _, _, p⟩ := lm y q y3
      exact ⟨x, iM x hx, g, fun k => hasPut_sub iM (gpE_self (gpE_iff.1 g).1) (p k)⟩
    · exact ⟨y, bM y q, gpE_self y3, fun k => hasPut_iff.2 ⟨y, bM y q, gpE_self y3, by omega⟩⟩
  · by_cases hlt : maskOf M y < y.ts
    · exact hlt
    · exfalso
      rcases maskOf_att M y with h0 | ⟨z, hz, cz, tz⟩
      · have := maskOf_nn R y
        omega
      · rcases (hm z).1 hz with q | q
        · have h1 := maskOf_le q cz
          rcases (hr y).1 hy with p | p
          · obtain ⟨x, hx, g, _, xm, _⟩ := lm y p y3
            obtain ⟨g1, g2, g3, g4, g5, g6⟩ := gpE_iff.1 g
            rw [mask_mates (mates_of g) g1 y3] at xm
            omega
          · rcases top_mark hs hv y with h0 | ⟨w, hw, cw, tw, sw⟩
            · have := maskOf_nn R y
              omega
            · have := (hb y p).1
              have w4 : 4 ≤ w.kind := by rcases (cover_iff.1 cw).2.2 with k | ⟨k, _⟩ <;> omega
              have wL := (major_mem (fs := fs) (clock := c) (m := m) (low := low) (z := w)).2 (.inr ⟨hw, w4, sw, by omega⟩)
              have := maskOf_le (lR w wL) cw
              omega
        · have := maskOf_le (bR z q) cz
          omega
  · have mA : ∀ e : En, maskOf m e ≤ maskOf M e := maskOf_sub (fun y hy _ => iM y hy)
    rcases (hm x).1 hx with q | q
    · have hput : hasPut m x = true := by
        obtain ⟨z, hz, g, k⟩ := hasPut_iff.1 xp
        rcases (hm z).1 hz with p | p
        · exact hasPut_iff.2 ⟨z, p, g, k⟩
        · have := (hb z p).2 x q
          have := decides_iff.1 xd z hz g
          omega
      rcases left_or_full (c := c) (major := true) (low := low) hs hM q x3 (decides_sub iM xd) hput (by have := mA x; omega) (exp_early hc xe) with h | h
      · obtain ⟨b1, b2, b3, b4, b5, b6, b7⟩ := hk_eq x
        exact .inl ⟨hk x, lR _ h, hk_hk x, by omega, dR x hx _ (hk_hk x) x3 xd, hasPut_iff.2 ⟨hk x, lR _ h, gpE_self (by omega), by omega⟩⟩
      · exact .inr (h.mono lR (mates_iff.2 ⟨rfl, rfl, rfl⟩) (Int.le_refl _))
    · by_cases hf : Full fs R x
      · exact .inr hf
      · refine .inl ⟨x, bR x q, rfl, x3, dR x hx x rfl x3 xd, ?_⟩
        obtain ⟨z, hz, g, k⟩ := hasPut_iff.1 xp
        rcases (hm z).1 hz with p | p
        · obtain ⟨u, hu, gu, ud⟩ := decider hs p (gpE_iff.1 g).1
          have gx := gpE_trans gu g
          obtain ⟨u3, _, c1, c2, c3, c4⟩ := gpE_iff.1 gx
          have Mu := mates_of gx
          rcases left_or_full (c := c) (major := true) (low := low) hs hM hu u3 ud (hasPut_iff.2 ⟨z, p, gpE_symm gu, k⟩) (by have h9 := mA x; rw [mask_mates Mu u3 x3]; omega) (by rw [exp_mates c2 c4]; exact exp_early hc xe) with h | h
          · obtain ⟨b1, b2, b3, b4, b5, b6, b7⟩ := hk_eq u
            exact hasPut_iff.2 ⟨hk u, lR _ h, gpE_iff.2 ⟨by omega, x3, b1.trans c1, b2.trans c2, b3.trans c3, b4.trans c4⟩, by omega⟩
          · exact absurd (h.mono lR Mu (by omega)) hf
        · exact hasPut_iff.2 ⟨z, bR z p, g, k⟩
end
end Go.Proofs.Ythhkpkfpifllkaa
