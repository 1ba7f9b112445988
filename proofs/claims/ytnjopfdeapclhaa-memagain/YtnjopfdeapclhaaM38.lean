import Derived.Test.YtnjopfdeapclhaaM37
import Derived.Test.YtnjopfdeapclhaaJ16
import Derived.Lib.Hide
namespace Go.Proofs.Ytnjopfdeapclhaa
open Go.RowKit
set_option linter.unusedVariables false

theorem EBox.far {w w' : World} {g : Nat} {e : EntD} {o : Option Nat} (h : EBox w g e) (k : w.grownBy w' o) (hne : ∀ x, o = some x → g ≠ x) : EBox w' g e := by
  unfold EBox at *
  rw [k.block g (Array.getElem?_eq_some_iff.1 h).1 (fun e => hne g e.symm rfl)]
  exact h
theorem ebox_own {w : World} {B m g x : Nat} {v : Value} {xs : List Nat} {e : EntD} (h : EBox w g e) (o : Own w B v m xs) (hx : v.ownBlock = some x) : g ≠ x := by
  rintro rfl
  rcases o.2.2 with ⟨h1, _⟩ | ⟨g2, cap, cur, h3, _, h5, _⟩
  · rw [h1] at hx; cases hx
  · rw [h3] at hx
    simp only [Value.ownBlock, Option.some.injEq] at hx
    subst hx
    unfold EBox at h
    rw [h5] at h
    simp at h
theorem filled_grown (w : World) (g : Nat) (D : EntD) : w.grownBy (filled w g D) (some g) := by
  have a := filled_apart w g D
  exact ⟨a.os, a.tape, a.output, a.size, fun i hi hne => a.block i hi (fun e => hne (by rw [e]))⟩
theorem Laid.fillB {w : World} {B g : Nat} {u : Value} {bs : List Nat} {D0 E : EntD} (h : Laid w B u bs) (hg : EBox w g D0) : Laid (filled w g E) B u bs := by
  obtain ⟨g2, c, h1, h2, h3, h4⟩ := h
  exact ⟨g2, c, h1, h2, h3, h4.apartE hg (filled_apart _ _ _)⟩

theorem Laid.set {w : World} {B g n c k : Nat} {bs : List Nat} (h : Laid w B (.slice (some ⟨g, 0, none⟩) n c) bs) (hk : k < bs.length) (v : Nat) : Laid (w.setCell ⟨g, k, none⟩ (.int .u8 (v : Int))) B (.slice (some ⟨g, 0, none⟩) n c) (bs.set k v) ∧ w.grownBy (w.setCell ⟨g, k, none⟩ (.int .u8 (v : Int))) (some g) := by
  obtain ⟨g2, c2, h1, h2, h3, h4⟩ := h
  simp only [Value.slice.injEq, Option.some.injEq] at h1
  obtain ⟨e1, rfl, rfl⟩ := h1
  obtain rfl : g = g2 := by injection e1
  have st := h4.2.stored k (.int .u8 (v : Int))
  refine ⟨⟨g, c, by simp, by simpa using h2, h3, ⟨by simp; rfl, ?_⟩⟩, st.2⟩
  have e : ((bs.set k v ++ marks5) ++ List.replicate 70 206) = ((bs ++ marks5) ++ List.replicate 70 206).set k v := by
    rw [List.set_append_left _ _ (by simp; omega), List.set_append_left _ _ hk]
  rw [e]
  have e2 : bv (((bs ++ marks5) ++ List.replicate 70 206).set k v) = (bv ((bs ++ marks5) ++ List.replicate 70 206)).set k (.int .u8 (v : Int)) := by simp [bv, List.map_set]
  rw [e2]
  simpa using st.1
theorem Laid.cellF {w : World} {B g n c k : Nat} {bs : List Nat} (h : Laid w B (.slice (some ⟨g, 0, none⟩) n c) bs) (hk : k < bs.length) : (∃ y : Nat, w.cell? ⟨g, k, none⟩ = some (.int .u8 (y : Int))) ∧ w.frozen? ⟨g, k, none⟩ = false := by
  obtain ⟨g2, c2, h1, h2, h3, h4⟩ := h
  simp only [Value.slice.injEq, Option.some.injEq] at h1
  obtain ⟨e1, rfl, rfl⟩ := h1
  obtain rfl : g = g2 := by injection e1
  refine ⟨⟨((bs ++ marks5) ++ List.replicate 70 206).getD k 0, ?_⟩, h4.2.frozenAt k⟩
  rw [h4.2.cellAt k (by omega)]
  exact bv_at _ _ (by simp; omega)

set_option maxRecDepth 100000 in
set_option maxHeartbeats 4000000 in
theorem put_any {w : World} {B g n c : Nat} {at_ by_ : Int} {bs : List Nat} (h : Laid w B (.slice (some ⟨g, 0, none⟩) n c) bs) (hl : bs.length ≤ 5000) (hb : Bys bs) :
    Calls Try.prog 54 #[.slice (some ⟨g, 0, none⟩) n c, .int .i64 at_, .int .i64 by_] w fun r w' => r = .returned (.tuple #[]) ∧ ∃ bs', bs'.length = bs.length ∧ Bys bs' ∧ Laid w' B (.slice (some ⟨g, 0, none⟩) n c) bs' ∧ w.grownBy w' (some g) := by
  have hn : n = bs.length := by
    obtain ⟨g2, c2, h1, _⟩ := h
    simp only [Value.slice.injEq] at h1
    exact h1.2.1
  have HL := Lib.hid h
  have HB := Lib.hid hb
  have HN := Lib.hid hn
  by_cases h0 : n = 0
  · subst h0
    clear h hn hb
    go_enter Try.func54, Try.ntmps54
    go_wp2
    first | go_ret | refine bodyPost_end (v := .tuple #[]) (by first | rfl | kernel_rfl) rfl ?_ | refine bodyPost_ret (v := .tuple #[]) (by first | rfl | kernel_rfl) rfl ?_
    exact ⟨rfl, bs, rfl, HB.out, HL.out, World.grownBy.refl _ _⟩
  · have hz0 : ((n : Int) == 0) = false := by simp; omega
    have hz1 : ¬ ((n : Int) = 0) := by omega
    obtain ⟨v, hv⟩ : ∃ v : Nat, (v : Int) = by_ % 256 := ⟨(by_ % 256).toNat, by omega⟩
    have hv256 : v < 256 := by omega
    have KEY : Hid (∀ k, k < n → ∃ bs', bs'.length = bs.length ∧ Bys bs' ∧ Laid (w.setCell ⟨g, k, none⟩ (.int .u8 (v : Int))) B (.slice (some ⟨g, 0, none⟩) n c) bs' ∧ w.grownBy (w.setCell ⟨g, k, none⟩ (.int .u8 (v : Int))) (some g)) := fun k hk => by
      have := HL.out.set (k := k) (by omega) v
      refine ⟨bs.set k v, by simp, fun x hx => ?_, this.1, this.2⟩
      rcases List.mem_or_eq_of_mem_set hx with h | h
      · exact HB.out x h
      · omega
    have CEL : Hid (∀ k, k < n → (∃ y : Nat, w.cell? ⟨g, k, none⟩ = some (.int .u8 (y : Int))) ∧ w.frozen? ⟨g, k, none⟩ = false) := fun k hk => HL.out.cellF (by omega)
    obtain ⟨z, hz⟩ : ∃ z, z = at_.tmod (n : Int) := ⟨_, rfl⟩
    have hzl : -(n : Int) < z ∧ z < (n : Int) := by
      rw [hz]
      have h1 := Int.tmod_lt_of_pos at_ (b := (n : Int)) (by omega)
      have h2 := Int.lt_tmod_of_pos at_ (b := (n : Int)) (by omega)
      omega
    clear h hb hn HL HB
    have HV := Lib.hid hv
    have hzs := hz.symm
    clear hz hv
    by_cases hneg : z < 0
    · obtain ⟨k, hk⟩ : ∃ k : Nat, z = (k : Int) - (n : Int) := ⟨(z + (n : Int)).toNat, by omega⟩
      subst hk
      have hkn : k < n := by omega
      have hkn' : (k : Int) < (n : Int) := by omega
      have hk0 : (0 : Int) ≤ (k : Int) := by omega
      have hwk : wrap64 (k : Int) = (k : Int) := by have := HN.out; unfold wrap64; omega
      obtain ⟨⟨y, hy⟩, hfz⟩ := CEL.out k hkn
      go_enter Try.func54, Try.ntmps54
      go_wp2
      refine bodyPost_end (v := .tuple #[]) (by first | rfl | kernel_rfl) rfl ?_
      refine ⟨rfl, ?_⟩
      have hk := KEY.out k hkn
      rw [HV.out] at hk
      exact hk
    · obtain ⟨k, hk⟩ : ∃ k : Nat, z = (k : Int) := ⟨z.toNat, by omega⟩
      subst hk
      have hkn : k < n := by omega
      have hkn' : (k : Int) < (n : Int) := by omega
      have hk0 : (0 : Int) ≤ (k : Int) := by omega
      have hwk : wrap64 (k : Int) = (k : Int) := by have := HN.out; unfold wrap64; omega
      obtain ⟨⟨y, hy⟩, hfz⟩ := CEL.out k hkn
      go_enter Try.func54, Try.ntmps54
      go_wp2
      refine bodyPost_end (v := .tuple #[]) (by first | rfl | kernel_rfl) rfl ?_
      refine ⟨rfl, ?_⟩
      have hk := KEY.out k hkn
      rw [HV.out] at hk
      exact hk


set_option maxRecDepth 100000 in
theorem putN_any (w : World) (a b : Int) : Calls Try.prog 54 #[.slice none 0 0, .int .i64 a, .int .i64 b] w fun r w' => r = .returned (.tuple #[]) ∧ w' = w := by
  go_enter Try.func54, Try.ntmps54
  go_wp2
  first | go_ret | refine bodyPost_end (v := .tuple #[]) (by first | rfl | kernel_rfl) rfl ?_ | refine bodyPost_ret (v := .tuple #[]) (by first | rfl | kernel_rfl) rfl ?_
  exact ⟨rfl, rfl⟩
theorem laid_ebox {w : World} {B g n c : Nat} {bs : List Nat} {e : EntD} (h : Laid w B (.slice (some ⟨g, 0, none⟩) n c) bs) (k : EBox w g e) : False := by
  obtain ⟨g2, c2, h1, h2, h3, h4⟩ := h
  simp only [Value.slice.injEq, Option.some.injEq] at h1
  obtain ⟨e1, rfl, rfl⟩ := h1
  obtain rfl : g = g2 := by injection e1
  exact ebox_own k h4 rfl rfl
theorem Laid.fillo2 {w : World} {B g : Nat} {u : Value} {bs : List Nat} {D0 D : EntD} (h : Laid w B u bs) (hg : EBox w g D0) : Laid (filled w g D) B u bs := h.fillB hg

set_option maxRecDepth 100000 in
set_option maxHeartbeats 8000000 in
theorem turnedN_fam {gr nr cr gq nq cq gv nv cv B : Nat} {fam ts sq kd : Int} {row qual val : List Nat} {w : World} {a b : Int} (le : LaidE w B ⟨.slice (some ⟨gr, 0, none⟩) nr cr, fam, .slice (some ⟨gq, 0, none⟩) nq cq, ts, sq, kd, .slice (some ⟨gv, 0, none⟩) nv cv, row, qual, val⟩) (fe : EntD.Fine ⟨.slice (some ⟨gr, 0, none⟩) nr cr, fam, .slice (some ⟨gq, 0, none⟩) nq cq, ts, sq, kd, .slice (some ⟨gv, 0, none⟩) nv cv, row, qual, val⟩) (lb : True) (hbs : True) (ap : (gr ≠ gq ∧ gr ≠ gv ∧ gq ≠ gv) ∧ True) :
    Calls Try.prog 30 #[.agg #[.slice (some ⟨gr, 0, none⟩) nr cr, .int .i64 fam, .slice (some ⟨gq, 0, none⟩) nq cq, .int .i64 ts, .int .i64 sq, .int .i64 kd, .slice (some ⟨gv, 0, none⟩) nv cv], .slice none 0 0, .agg #[.int .i64 3, .int .i64 a, .int .i64 b]] w fun r w' => ∃ (D : EntD) (bs' : List Nat) (o : Option Nat), r = .returned (.agg D.cells) ∧ (D.vr = .slice (some ⟨gr, 0, none⟩) nr cr ∧ D.vq = .slice (some ⟨gq, 0, none⟩) nq cq ∧ D.vv = .slice (some ⟨gv, 0, none⟩) nv cv) ∧ LaidE w' B D ∧ EntD.Fine D ∧ True ∧ True ∧ w.grownBy w' o ∧ (o = none ∨ False ∨ o = some gr ∨ o = some gq ∨ o = some gv) := by
  have A1 : Below w.heap.size w (((w.alloc (.cells #[.slice (some ⟨gr, 0, none⟩) nr cr, .int .i64 b, .slice (some ⟨gq, 0, none⟩) nq cq, .int .i64 ts, .int .i64 sq, .int .i64 kd, .slice (some ⟨gv, 0, none⟩) nv cv] 30)).alloc (.cells #[.int .i64 3, .int .i64 a, .int .i64 b] 62)).alloc (.cells #[.slice (some ⟨gr, 0, none⟩) nr cr, .int .i64 b, .slice (some ⟨gq, 0, none⟩) nq cq, .int .i64 ts, .int .i64 sq, .int .i64 kd, .slice (some ⟨gv, 0, none⟩) nv cv] 30)) := (((Below.refl w.heap.size w).alloc (Nat.le_refl _) _).alloc (by simp) _).alloc (by simp; omega) _
  have bg : EBox (((w.alloc (.cells #[.slice (some ⟨gr, 0, none⟩) nr cr, .int .i64 b, .slice (some ⟨gq, 0, none⟩) nq cq, .int .i64 ts, .int .i64 sq, .int .i64 kd, .slice (some ⟨gv, 0, none⟩) nv cv] 30)).alloc (.cells #[.int .i64 3, .int .i64 a, .int .i64 b] 62)).alloc (.cells #[.slice (some ⟨gr, 0, none⟩) nr cr, .int .i64 b, .slice (some ⟨gq, 0, none⟩) nq cq, .int .i64 ts, .int .i64 sq, .int .i64 kd, .slice (some ⟨gv, 0, none⟩) nv cv] 30)) (w.heap.size + 1 + 1) ⟨.slice (some ⟨gr, 0, none⟩) nr cr, b, .slice (some ⟨gq, 0, none⟩) nq cq, ts, sq, kd, .slice (some ⟨gv, 0, none⟩) nv cv, row, qual, val⟩ := by
    have h := EBox.new ((w.alloc (.cells #[.slice (some ⟨gr, 0, none⟩) nr cr, .int .i64 b, .slice (some ⟨gq, 0, none⟩) nq cq, .int .i64 ts, .int .i64 sq, .int .i64 kd, .slice (some ⟨gv, 0, none⟩) nv cv] 30)).alloc (.cells #[.int .i64 3, .int .i64 a, .int .i64 b] 62)) ⟨.slice (some ⟨gr, 0, none⟩) nr cr, b, .slice (some ⟨gq, 0, none⟩) nq cq, ts, sq, kd, .slice (some ⟨gv, 0, none⟩) nv cv, row, qual, val⟩
    rw [World.size_alloc, World.size_alloc] at h
    exact h
  have HE := Lib.hid (And.intro A1 bg)
  have HL := Lib.hid (And.intro le (And.intro fe (And.intro lb hbs)))
  clear A1 bg le fe lb hbs ap
  go_enter Try.func30, Try.ntmps30
  go_wp2
  obtain ⟨A1, bg⟩ := HE.out
  clear HE
  generalize (((w.alloc (.cells #[.slice (some ⟨gr, 0, none⟩) nr cr, .int .i64 b, .slice (some ⟨gq, 0, none⟩) nq cq, .int .i64 ts, .int .i64 sq, .int .i64 kd, .slice (some ⟨gv, 0, none⟩) nv cv] 30)).alloc (.cells #[.int .i64 3, .int .i64 a, .int .i64 b] 62)).alloc (.cells #[.slice (some ⟨gr, 0, none⟩) nr cr, .int .i64 b, .slice (some ⟨gq, 0, none⟩) nq cq, .int .i64 ts, .int .i64 sq, .int .i64 kd, .slice (some ⟨gv, 0, none⟩) nv cv] 30)) = wz at A1 bg ⊢
  obtain ⟨t0, t1, t2, t3, t4, t5, t6⟩ := bg.cells7
  simp only at t0 t1 t2 t3 t4 t5 t6
  (try simp only [Exit.inBlock, Exit.then])
  refine bodyPost_ret (v := .agg #[.slice (some ⟨gr, 0, none⟩) nr cr, .int .i64 b, .slice (some ⟨gq, 0, none⟩) nq cq, .int .i64 ts, .int .i64 sq, .int .i64 kd, .slice (some ⟨gv, 0, none⟩) nv cv]) ?hres rfl ?_
  case hres => simp [results, Try.results30, go_sem, t0, t1, t2, t3, t4, t5, t6]
  have l2 := HL.out.1.later A1
  exact ⟨⟨.slice (some ⟨gr, 0, none⟩) nr cr, b, .slice (some ⟨gq, 0, none⟩) nq cq, ts, sq, kd, .slice (some ⟨gv, 0, none⟩) nv cv, row, qual, val⟩, [], none, rfl, ⟨rfl, rfl, rfl⟩, ⟨l2.1, l2.2.1, l2.2.2⟩, HL.out.2.1, trivial, HL.out.2.2.2, grown_below A1 none, .inl rfl⟩

set_option maxRecDepth 100000 in
set_option maxHeartbeats 8000000 in
theorem turnedN_ts {gr nr cr gq nq cq gv nv cv B : Nat} {fam ts sq kd : Int} {row qual val : List Nat} {w : World} {a b : Int} (le : LaidE w B ⟨.slice (some ⟨gr, 0, none⟩) nr cr, fam, .slice (some ⟨gq, 0, none⟩) nq cq, ts, sq, kd, .slice (some ⟨gv, 0, none⟩) nv cv, row, qual, val⟩) (fe : EntD.Fine ⟨.slice (some ⟨gr, 0, none⟩) nr cr, fam, .slice (some ⟨gq, 0, none⟩) nq cq, ts, sq, kd, .slice (some ⟨gv, 0, none⟩) nv cv, row, qual, val⟩) (lb : True) (hbs : True) (ap : (gr ≠ gq ∧ gr ≠ gv ∧ gq ≠ gv) ∧ True) :
    Calls Try.prog 30 #[.agg #[.slice (some ⟨gr, 0, none⟩) nr cr, .int .i64 fam, .slice (some ⟨gq, 0, none⟩) nq cq, .int .i64 ts, .int .i64 sq, .int .i64 kd, .slice (some ⟨gv, 0, none⟩) nv cv], .slice none 0 0, .agg #[.int .i64 4, .int .i64 a, .int .i64 b]] w fun r w' => ∃ (D : EntD) (bs' : List Nat) (o : Option Nat), r = .returned (.agg D.cells) ∧ (D.vr = .slice (some ⟨gr, 0, none⟩) nr cr ∧ D.vq = .slice (some ⟨gq, 0, none⟩) nq cq ∧ D.vv = .slice (some ⟨gv, 0, none⟩) nv cv) ∧ LaidE w' B D ∧ EntD.Fine D ∧ True ∧ True ∧ w.grownBy w' o ∧ (o = none ∨ False ∨ o = some gr ∨ o = some gq ∨ o = some gv) := by
  have A1 : Below w.heap.size w (((w.alloc (.cells #[.slice (some ⟨gr, 0, none⟩) nr cr, .int .i64 fam, .slice (some ⟨gq, 0, none⟩) nq cq, .int .i64 b, .int .i64 sq, .int .i64 kd, .slice (some ⟨gv, 0, none⟩) nv cv] 30)).alloc (.cells #[.int .i64 4, .int .i64 a, .int .i64 b] 62)).alloc (.cells #[.slice (some ⟨gr, 0, none⟩) nr cr, .int .i64 fam, .slice (some ⟨gq, 0, none⟩) nq cq, .int .i64 b, .int .i64 sq, .int .i64 kd, .slice (some ⟨gv, 0, none⟩) nv cv] 30)) := (((Below.refl w.heap.size w).alloc (Nat.le_refl _) _).alloc (by simp) _).alloc (by simp; omega) _
  have bg : EBox (((w.alloc (.cells #[.slice (some ⟨gr, 0, none⟩) nr cr, .int .i64 fam, .slice (some ⟨gq, 0, none⟩) nq cq, .int .i64 b, .int .i64 sq, .int .i64 kd, .slice (some ⟨gv, 0, none⟩) nv cv] 30)).alloc (.cells #[.int .i64 4, .int .i64 a, .int .i64 b] 62)).alloc (.cells #[.slice (some ⟨gr, 0, none⟩) nr cr, .int .i64 fam, .slice (some ⟨gq, 0, none⟩) nq cq, .int .i64 b, .int .i64 sq, .int .i64 kd, .slice (some ⟨gv, 0, none⟩) nv cv] 30)) (w.heap.size + 1 + 1) ⟨.slice (some ⟨gr, 0, none⟩) nr cr, fam, .slice (some ⟨gq, 0, none⟩) nq cq, b, sq, kd, .slice (some ⟨gv, 0, none⟩) nv cv, row, qual, val⟩ := by
    have h := EBox.new ((w.alloc (.cells #[.slice (some ⟨gr, 0, none⟩) nr cr, .int .i64 fam, .slice (some ⟨gq, 0, none⟩) nq cq, .int .i64 b, .int .i64 sq, .int .i64 kd, .slice (some ⟨gv, 0, none⟩) nv cv] 30)).alloc (.cells #[.int .i64 4, .int .i64 a, .int .i64 b] 62)) ⟨.slice (some ⟨gr, 0, none⟩) nr cr, fam, .slice (some ⟨gq, 0, none⟩) nq cq, b, sq, kd, .slice (some ⟨gv, 0, none⟩) nv cv, row, qual, val⟩
    rw [World.size_alloc, World.size_alloc] at h
    exact h
  have HE := Lib.hid (And.intro A1 bg)
  have HL := Lib.hid (And.intro le (And.intro fe (And.intro lb hbs)))
  clear A1 bg le fe lb hbs ap
  go_enter Try.func30, Try.ntmps30
  go_wp2
  obtain ⟨A1, bg⟩ := HE.out
  clear HE
  generalize (((w.alloc (.cells #[.slice (some ⟨gr, 0, none⟩) nr cr, .int .i64 fam, .slice (some ⟨gq, 0, none⟩) nq cq, .int .i64 b, .int .i64 sq, .int .i64 kd, .slice (some ⟨gv, 0, none⟩) nv cv] 30)).alloc (.cells #[.int .i64 4, .int .i64 a, .int .i64 b] 62)).alloc (.cells #[.slice (some ⟨gr, 0, none⟩) nr cr, .int .i64 fam, .slice (some ⟨gq, 0, none⟩) nq cq, .int .i64 b, .int .i64 sq, .int .i64 kd, .slice (some ⟨gv, 0, none⟩) nv cv] 30)) = wz at A1 bg ⊢
  obtain ⟨t0, t1, t2, t3, t4, t5, t6⟩ := bg.cells7
  simp only at t0 t1 t2 t3 t4 t5 t6
  (try simp only [Exit.inBlock, Exit.then])
  refine bodyPost_ret (v := .agg #[.slice (some ⟨gr, 0, none⟩) nr cr, .int .i64 fam, .slice (some ⟨gq, 0, none⟩) nq cq, .int .i64 b, .int .i64 sq, .int .i64 kd, .slice (some ⟨gv, 0, none⟩) nv cv]) ?hres rfl ?_
  case hres => simp [results, Try.results30, go_sem, t0, t1, t2, t3, t4, t5, t6]
  have l2 := HL.out.1.later A1
  exact ⟨⟨.slice (some ⟨gr, 0, none⟩) nr cr, fam, .slice (some ⟨gq, 0, none⟩) nq cq, b, sq, kd, .slice (some ⟨gv, 0, none⟩) nv cv, row, qual, val⟩, [], none, rfl, ⟨rfl, rfl, rfl⟩, ⟨l2.1, l2.2.1, l2.2.2⟩, HL.out.2.1, trivial, HL.out.2.2.2, grown_below A1 none, .inl rfl⟩

set_option maxRecDepth 100000 in
set_option maxHeartbeats 8000000 in
theorem turnedN_sq {gr nr cr gq nq cq gv nv cv B : Nat} {fam ts sq kd : Int} {row qual val : List Nat} {w : World} {a b : Int} (le : LaidE w B ⟨.slice (some ⟨gr, 0, none⟩) nr cr, fam, .slice (some ⟨gq, 0, none⟩) nq cq, ts, sq, kd, .slice (some ⟨gv, 0, none⟩) nv cv, row, qual, val⟩) (fe : EntD.Fine ⟨.slice (some ⟨gr, 0, none⟩) nr cr, fam, .slice (some ⟨gq, 0, none⟩) nq cq, ts, sq, kd, .slice (some ⟨gv, 0, none⟩) nv cv, row, qual, val⟩) (lb : True) (hbs : True) (ap : (gr ≠ gq ∧ gr ≠ gv ∧ gq ≠ gv) ∧ True) :
    Calls Try.prog 30 #[.agg #[.slice (some ⟨gr, 0, none⟩) nr cr, .int .i64 fam, .slice (some ⟨gq, 0, none⟩) nq cq, .int .i64 ts, .int .i64 sq, .int .i64 kd, .slice (some ⟨gv, 0, none⟩) nv cv], .slice none 0 0, .agg #[.int .i64 5, .int .i64 a, .int .i64 b]] w fun r w' => ∃ (D : EntD) (bs' : List Nat) (o : Option Nat), r = .returned (.agg D.cells) ∧ (D.vr = .slice (some ⟨gr, 0, none⟩) nr cr ∧ D.vq = .slice (some ⟨gq, 0, none⟩) nq cq ∧ D.vv = .slice (some ⟨gv, 0, none⟩) nv cv) ∧ LaidE w' B D ∧ EntD.Fine D ∧ True ∧ True ∧ w.grownBy w' o ∧ (o = none ∨ False ∨ o = some gr ∨ o = some gq ∨ o = some gv) := by
  have A1 : Below w.heap.size w (((w.alloc (.cells #[.slice (some ⟨gr, 0, none⟩) nr cr, .int .i64 fam, .slice (some ⟨gq, 0, none⟩) nq cq, .int .i64 ts, .int .i64 b, .int .i64 kd, .slice (some ⟨gv, 0, none⟩) nv cv] 30)).alloc (.cells #[.int .i64 5, .int .i64 a, .int .i64 b] 62)).alloc (.cells #[.slice (some ⟨gr, 0, none⟩) nr cr, .int .i64 fam, .slice (some ⟨gq, 0, none⟩) nq cq, .int .i64 ts, .int .i64 b, .int .i64 kd, .slice (some ⟨gv, 0, none⟩) nv cv] 30)) := (((Below.refl w.heap.size w).alloc (Nat.le_refl _) _).alloc (by simp) _).alloc (by simp; omega) _
  have bg : EBox (((w.alloc (.cells #[.slice (some ⟨gr, 0, none⟩) nr cr, .int .i64 fam, .slice (some ⟨gq, 0, none⟩) nq cq, .int .i64 ts, .int .i64 b, .int .i64 kd, .slice (some ⟨gv, 0, none⟩) nv cv] 30)).alloc (.cells #[.int .i64 5, .int .i64 a, .int .i64 b] 62)).alloc (.cells #[.slice (some ⟨gr, 0, none⟩) nr cr, .int .i64 fam, .slice (some ⟨gq, 0, none⟩) nq cq, .int .i64 ts, .int .i64 b, .int .i64 kd, .slice (some ⟨gv, 0, none⟩) nv cv] 30)) (w.heap.size + 1 + 1) ⟨.slice (some ⟨gr, 0, none⟩) nr cr, fam, .slice (some ⟨gq, 0, none⟩) nq cq, ts, b, kd, .slice (some ⟨gv, 0, none⟩) nv cv, row, qual, val⟩ := by
    have h := EBox.new ((w.alloc (.cells #[.slice (some ⟨gr, 0, none⟩) nr cr, .int .i64 fam, .slice (some ⟨gq, 0, none⟩) nq cq, .int .i64 ts, .int .i64 b, .int .i64 kd, .slice (some ⟨gv, 0, none⟩) nv cv] 30)).alloc (.cells #[.int .i64 5, .int .i64 a, .int .i64 b] 62)) ⟨.slice (some ⟨gr, 0, none⟩) nr cr, fam, .slice (some ⟨gq, 0, none⟩) nq cq, ts, b, kd, .slice (some ⟨gv, 0, none⟩) nv cv, row, qual, val⟩
    rw [World.size_alloc, World.size_alloc] at h
    exact h
  have HE := Lib.hid (And.intro A1 bg)
  have HL := Lib.hid (And.intro le (And.intro fe (And.intro lb hbs)))
  clear A1 bg le fe lb hbs ap
  go_enter Try.func30, Try.ntmps30
  go_wp2
  obtain ⟨A1, bg⟩ := HE.out
  clear HE
  generalize (((w.alloc (.cells #[.slice (some ⟨gr, 0, none⟩) nr cr, .int .i64 fam, .slice (some ⟨gq, 0, none⟩) nq cq, .int .i64 ts, .int .i64 b, .int .i64 kd, .slice (some ⟨gv, 0, none⟩) nv cv] 30)).alloc (.cells #[.int .i64 5, .int .i64 a, .int .i64 b] 62)).alloc (.cells #[.slice (some ⟨gr, 0, none⟩) nr cr, .int .i64 fam, .slice (some ⟨gq, 0, none⟩) nq cq, .int .i64 ts, .int .i64 b, .int .i64 kd, .slice (some ⟨gv, 0, none⟩) nv cv] 30)) = wz at A1 bg ⊢
  obtain ⟨t0, t1, t2, t3, t4, t5, t6⟩ := bg.cells7
  simp only at t0 t1 t2 t3 t4 t5 t6
  (try simp only [Exit.inBlock, Exit.then])
  refine bodyPost_ret (v := .agg #[.slice (some ⟨gr, 0, none⟩) nr cr, .int .i64 fam, .slice (some ⟨gq, 0, none⟩) nq cq, .int .i64 ts, .int .i64 b, .int .i64 kd, .slice (some ⟨gv, 0, none⟩) nv cv]) ?hres rfl ?_
  case hres => simp [results, Try.results30, go_sem, t0, t1, t2, t3, t4, t5, t6]
  have l2 := HL.out.1.later A1
  exact ⟨⟨.slice (some ⟨gr, 0, none⟩) nr cr, fam, .slice (some ⟨gq, 0, none⟩) nq cq, ts, b, kd, .slice (some ⟨gv, 0, none⟩) nv cv, row, qual, val⟩, [], none, rfl, ⟨rfl, rfl, rfl⟩, ⟨l2.1, l2.2.1, l2.2.2⟩, HL.out.2.1, trivial, HL.out.2.2.2, grown_below A1 none, .inl rfl⟩

set_option maxRecDepth 100000 in
set_option maxHeartbeats 8000000 in
theorem turnedN_kd {gr nr cr gq nq cq gv nv cv B : Nat} {fam ts sq kd : Int} {row qual val : List Nat} {w : World} {a b : Int} (le : LaidE w B ⟨.slice (some ⟨gr, 0, none⟩) nr cr, fam, .slice (some ⟨gq, 0, none⟩) nq cq, ts, sq, kd, .slice (some ⟨gv, 0, none⟩) nv cv, row, qual, val⟩) (fe : EntD.Fine ⟨.slice (some ⟨gr, 0, none⟩) nr cr, fam, .slice (some ⟨gq, 0, none⟩) nq cq, ts, sq, kd, .slice (some ⟨gv, 0, none⟩) nv cv, row, qual, val⟩) (lb : True) (hbs : True) (ap : (gr ≠ gq ∧ gr ≠ gv ∧ gq ≠ gv) ∧ True) :
    Calls Try.prog 30 #[.agg #[.slice (some ⟨gr, 0, none⟩) nr cr, .int .i64 fam, .slice (some ⟨gq, 0, none⟩) nq cq, .int .i64 ts, .int .i64 sq, .int .i64 kd, .slice (some ⟨gv, 0, none⟩) nv cv], .slice none 0 0, .agg #[.int .i64 6, .int .i64 a, .int .i64 b]] w fun r w' => ∃ (D : EntD) (bs' : List Nat) (o : Option Nat), r = .returned (.agg D.cells) ∧ (D.vr = .slice (some ⟨gr, 0, none⟩) nr cr ∧ D.vq = .slice (some ⟨gq, 0, none⟩) nq cq ∧ D.vv = .slice (some ⟨gv, 0, none⟩) nv cv) ∧ LaidE w' B D ∧ EntD.Fine D ∧ True ∧ True ∧ w.grownBy w' o ∧ (o = none ∨ False ∨ o = some gr ∨ o = some gq ∨ o = some gv) := by
  have A1 : Below w.heap.size w (((w.alloc (.cells #[.slice (some ⟨gr, 0, none⟩) nr cr, .int .i64 fam, .slice (some ⟨gq, 0, none⟩) nq cq, .int .i64 ts, .int .i64 sq, .int .i64 b, .slice (some ⟨gv, 0, none⟩) nv cv] 30)).alloc (.cells #[.int .i64 6, .int .i64 a, .int .i64 b] 62)).alloc (.cells #[.slice (some ⟨gr, 0, none⟩) nr cr, .int .i64 fam, .slice (some ⟨gq, 0, none⟩) nq cq, .int .i64 ts, .int .i64 sq, .int .i64 b, .slice (some ⟨gv, 0, none⟩) nv cv] 30)) := (((Below.refl w.heap.size w).alloc (Nat.le_refl _) _).alloc (by simp) _).alloc (by simp; omega) _
  have bg : EBox (((w.alloc (.cells #[.slice (some ⟨gr, 0, none⟩) nr cr, .int .i64 fam, .slice (some ⟨gq, 0, none⟩) nq cq, .int .i64 ts, .int .i64 sq, .int .i64 b, .slice (some ⟨gv, 0, none⟩) nv cv] 30)).alloc (.cells #[.int .i64 6, .int .i64 a, .int .i64 b] 62)).alloc (.cells #[.slice (some ⟨gr, 0, none⟩) nr cr, .int .i64 fam, .slice (some ⟨gq, 0, none⟩) nq cq, .int .i64 ts, .int .i64 sq, .int .i64 b, .slice (some ⟨gv, 0, none⟩) nv cv] 30)) (w.heap.size + 1 + 1) ⟨.slice (some ⟨gr, 0, none⟩) nr cr, fam, .slice (some ⟨gq, 0, none⟩) nq cq, ts, sq, b, .slice (some ⟨gv, 0, none⟩) nv cv, row, qual, val⟩ := by
    have h := EBox.new ((w.alloc (.cells #[.slice (some ⟨gr, 0, none⟩) nr cr, .int .i64 fam, .slice (some ⟨gq, 0, none⟩) nq cq, .int .i64 ts, .int .i64 sq, .int .i64 b, .slice (some ⟨gv, 0, none⟩) nv cv] 30)).alloc (.cells #[.int .i64 6, .int .i64 a, .int .i64 b] 62)) ⟨.slice (some ⟨gr, 0, none⟩) nr cr, fam, .slice (some ⟨gq, 0, none⟩) nq cq, ts, sq, b, .slice (some ⟨gv, 0, none⟩) nv cv, row, qual, val⟩
    rw [World.size_alloc, World.size_alloc] at h
    exact h
  have HE := Lib.hid (And.intro A1 bg)
  have HL := Lib.hid (And.intro le (And.intro fe (And.intro lb hbs)))
  clear A1 bg le fe lb hbs ap
  go_enter Try.func30, Try.ntmps30
  go_wp2
  obtain ⟨A1, bg⟩ := HE.out
  clear HE
  generalize (((w.alloc (.cells #[.slice (some ⟨gr, 0, none⟩) nr cr, .int .i64 fam, .slice (some ⟨gq, 0, none⟩) nq cq, .int .i64 ts, .int .i64 sq, .int .i64 b, .slice (some ⟨gv, 0, none⟩) nv cv] 30)).alloc (.cells #[.int .i64 6, .int .i64 a, .int .i64 b] 62)).alloc (.cells #[.slice (some ⟨gr, 0, none⟩) nr cr, .int .i64 fam, .slice (some ⟨gq, 0, none⟩) nq cq, .int .i64 ts, .int .i64 sq, .int .i64 b, .slice (some ⟨gv, 0, none⟩) nv cv] 30)) = wz at A1 bg ⊢
  obtain ⟨t0, t1, t2, t3, t4, t5, t6⟩ := bg.cells7
  simp only at t0 t1 t2 t3 t4 t5 t6
  (try simp only [Exit.inBlock, Exit.then])
  refine bodyPost_ret (v := .agg #[.slice (some ⟨gr, 0, none⟩) nr cr, .int .i64 fam, .slice (some ⟨gq, 0, none⟩) nq cq, .int .i64 ts, .int .i64 sq, .int .i64 b, .slice (some ⟨gv, 0, none⟩) nv cv]) ?hres rfl ?_
  case hres => simp [results, Try.results30, go_sem, t0, t1, t2, t3, t4, t5, t6]
  have l2 := HL.out.1.later A1
  exact ⟨⟨.slice (some ⟨gr, 0, none⟩) nr cr, fam, .slice (some ⟨gq, 0, none⟩) nq cq, ts, sq, b, .slice (some ⟨gv, 0, none⟩) nv cv, row, qual, val⟩, [], none, rfl, ⟨rfl, rfl, rfl⟩, ⟨l2.1, l2.2.1, l2.2.2⟩, HL.out.2.1, trivial, HL.out.2.2.2, grown_below A1 none, .inl rfl⟩

set_option maxRecDepth 100000 in
set_option maxHeartbeats 8000000 in
theorem turnedN_row {gr nr cr gq nq cq gv nv cv B : Nat} {fam ts sq kd : Int} {row qual val : List Nat} {w : World} {a b : Int} (le : LaidE w B ⟨.slice (some ⟨gr, 0, none⟩) nr cr, fam, .slice (some ⟨gq, 0, none⟩) nq cq, ts, sq, kd, .slice (some ⟨gv, 0, none⟩) nv cv, row, qual, val⟩) (fe : EntD.Fine ⟨.slice (some ⟨gr, 0, none⟩) nr cr, fam, .slice (some ⟨gq, 0, none⟩) nq cq, ts, sq, kd, .slice (some ⟨gv, 0, none⟩) nv cv, row, qual, val⟩) (lb : True) (hbs : True) (ap : (gr ≠ gq ∧ gr ≠ gv ∧ gq ≠ gv) ∧ True) :
    Calls Try.prog 30 #[.agg #[.slice (some ⟨gr, 0, none⟩) nr cr, .int .i64 fam, .slice (some ⟨gq, 0, none⟩) nq cq, .int .i64 ts, .int .i64 sq, .int .i64 kd, .slice (some ⟨gv, 0, none⟩) nv cv], .slice none 0 0, .agg #[.int .i64 0, .int .i64 a, .int .i64 b]] w fun r w' => ∃ (D : EntD) (bs' : List Nat) (o : Option Nat), r = .returned (.agg D.cells) ∧ (D.vr = .slice (some ⟨gr, 0, none⟩) nr cr ∧ D.vq = .slice (some ⟨gq, 0, none⟩) nq cq ∧ D.vv = .slice (some ⟨gv, 0, none⟩) nv cv) ∧ LaidE w' B D ∧ EntD.Fine D ∧ True ∧ True ∧ w.grownBy w' o ∧ (o = none ∨ False ∨ o = some gr ∨ o = some gq ∨ o = some gv) := by
  have A1 : Below w.heap.size w (((w.alloc (.cells #[.slice (some ⟨gr, 0, none⟩) nr cr, .int .i64 fam, .slice (some ⟨gq, 0, none⟩) nq cq, .int .i64 ts, .int .i64 sq, .int .i64 kd, .slice (some ⟨gv, 0, none⟩) nv cv] 30)).alloc (.cells #[.int .i64 0, .int .i64 a, .int .i64 b] 62)).alloc (.cells #[.slice none 0 0, .int .i64 0, .slice none 0 0, .int .i64 0, .int .i64 0, .int .i64 0, .slice none 0 0] 30)) := (((Below.refl w.heap.size w).alloc (Nat.le_refl _) _).alloc (by simp) _).alloc (by simp; omega) _
  have be : EBox (((w.alloc (.cells #[.slice (some ⟨gr, 0, none⟩) nr cr, .int .i64 fam, .slice (some ⟨gq, 0, none⟩) nq cq, .int .i64 ts, .int .i64 sq, .int .i64 kd, .slice (some ⟨gv, 0, none⟩) nv cv] 30)).alloc (.cells #[.int .i64 0, .int .i64 a, .int .i64 b] 62)).alloc (.cells #[.slice none 0 0, .int .i64 0, .slice none 0 0, .int .i64 0, .int .i64 0, .int .i64 0, .slice none 0 0] 30)) w.heap.size ⟨.slice (some ⟨gr, 0, none⟩) nr cr, fam, .slice (some ⟨gq, 0, none⟩) nq cq, ts, sq, kd, .slice (some ⟨gv, 0, none⟩) nv cv, row, qual, val⟩ := ((EBox.new w ⟨.slice (some ⟨gr, 0, none⟩) nr cr, fam, .slice (some ⟨gq, 0, none⟩) nq cq, ts, sq, kd, .slice (some ⟨gv, 0, none⟩) nv cv, row, qual, val⟩).later ((Below.refl _ _).alloc (Nat.le_refl _) _)).later ((Below.refl _ _).alloc (Nat.le_refl _) _)
  have bg : EBox (((w.alloc (.cells #[.slice (some ⟨gr, 0, none⟩) nr cr, .int .i64 fam, .slice (some ⟨gq, 0, none⟩) nq cq, .int .i64 ts, .int .i64 sq, .int .i64 kd, .slice (some ⟨gv, 0, none⟩) nv cv] 30)).alloc (.cells #[.int .i64 0, .int .i64 a, .int .i64 b] 62)).alloc (.cells #[.slice none 0 0, .int .i64 0, .slice none 0 0, .int .i64 0, .int .i64 0, .int .i64 0, .slice none 0 0] 30)) (w.heap.size + 1 + 1) ⟨.slice none 0 0, 0, .slice none 0 0, 0, 0, 0, .slice none 0 0, [], [], []⟩ := by
    have h := EBox.new ((w.alloc (.cells #[.slice (some ⟨gr, 0, none⟩) nr cr, .int .i64 fam, .slice (some ⟨gq, 0, none⟩) nq cq, .int .i64 ts, .int .i64 sq, .int .i64 kd, .slice (some ⟨gv, 0, none⟩) nv cv] 30)).alloc (.cells #[.int .i64 0, .int .i64 a, .int .i64 b] 62)) ⟨.slice none 0 0, 0, .slice none 0 0, 0, 0, 0, .slice none 0 0, [], [], []⟩
    rw [World.size_alloc, World.size_alloc] at h
    exact h
  have HE := Lib.hid (And.intro A1 (And.intro be bg))
  have HL := Lib.hid (And.intro le (And.intro fe (And.intro lb hbs)))
  have HA := Lib.hid ap
  clear A1 be bg le fe lb hbs ap
  go_enter Try.func30, Try.ntmps30
  go_wp2_with fail
  refine (put_any (HL.out.1.1.later HE.out.1) HL.out.2.1.1.2 HL.out.2.1.1.1).mono ?_
  rintro r0 w1 ⟨rfl, xs, hxl, hx1, lx, gr1⟩
  obtain ⟨A1, be, bg⟩ := HE.out
  have hs1 : w.heap.size + 1 + 1 + 1 ≤ w1.heap.size := by have := gr1.size; simpa using this
  have oX : Value.ownBlock (.slice (some ⟨gr, 0, none⟩) nr cr) = some gr := rfl
  have lxo : ∀ z, gr = z → EBox (((w.alloc (.cells #[.slice (some ⟨gr, 0, none⟩) nr cr, .int .i64 fam, .slice (some ⟨gq, 0, none⟩) nq cq, .int .i64 ts, .int .i64 sq, .int .i64 kd, .slice (some ⟨gv, 0, none⟩) nv cv] 30)).alloc (.cells #[.int .i64 0, .int .i64 a, .int .i64 b] 62)).alloc (.cells #[.slice none 0 0, .int .i64 0, .slice none 0 0, .int .i64 0, .int .i64 0, .int .i64 0, .slice none 0 0] 30)) z ⟨.slice (some ⟨gr, 0, none⟩) nr cr, fam, .slice (some ⟨gq, 0, none⟩) nq cq, ts, sq, kd, .slice (some ⟨gv, 0, none⟩) nv cv, row, qual, val⟩ → False := fun z hz h => by
    subst hz
    exact laid_ebox (HL.out.1.1.later A1) h
  have lxg : ∀ z, gr = z → EBox (((w.alloc (.cells #[.slice (some ⟨gr, 0, none⟩) nr cr, .int .i64 fam, .slice (some ⟨gq, 0, none⟩) nq cq, .int .i64 ts, .int .i64 sq, .int .i64 kd, .slice (some ⟨gv, 0, none⟩) nv cv] 30)).alloc (.cells #[.int .i64 0, .int .i64 a, .int .i64 b] 62)).alloc (.cells #[.slice none 0 0, .int .i64 0, .slice none 0 0, .int .i64 0, .int .i64 0, .int .i64 0, .slice none 0 0] 30)) z ⟨.slice none 0 0, 0, .slice none 0 0, 0, 0, 0, .slice none 0 0, [], [], []⟩ → False := fun z hz h => by
    subst hz
    exact laid_ebox (HL.out.1.1.later A1) h
  have BE1 := be.far gr1 (fun z hz e => by cases hz; exact lxo _ e.symm be)
  have BG1 := bg.far gr1 (fun z hz e => by cases hz; exact lxg _ e.symm bg)
  have hfx : row.length ≤ 5000 := HL.out.2.1.1.2
  have hxs : xs.length ≤ 5000 := Nat.le_trans (Nat.le_of_eq hxl) hfx
  have LR := lx.fillo2 (D := ⟨.slice (some ⟨gr, 0, none⟩) nr cr, fam, .slice (some ⟨gq, 0, none⟩) nq cq, ts, sq, kd, .slice (some ⟨gv, 0, none⟩) nv cv, xs, qual, val⟩) BG1
  have LQ := ((HL.out.1.2.1.later A1).far gr1 (fun g hg h => by cases hg; simp [Value.ownBlock] at h; exact HA.out.1.1 h.symm)).fillo2 (D := ⟨.slice (some ⟨gr, 0, none⟩) nr cr, fam, .slice (some ⟨gq, 0, none⟩) nq cq, ts, sq, kd, .slice (some ⟨gv, 0, none⟩) nv cv, xs, qual, val⟩) BG1
  have LV := ((HL.out.1.2.2.later A1).far gr1 (fun g hg h => by cases hg; simp [Value.ownBlock] at h; exact HA.out.1.2.1 h.symm)).fillo2 (D := ⟨.slice (some ⟨gr, 0, none⟩) nr cr, fam, .slice (some ⟨gq, 0, none⟩) nq cq, ts, sq, kd, .slice (some ⟨gv, 0, none⟩) nv cv, xs, qual, val⟩) BG1
  have LB : True := trivial
  have GG : w.grownBy (filled w1 (w.heap.size + 1 + 1) ⟨.slice (some ⟨gr, 0, none⟩) nr cr, fam, .slice (some ⟨gq, 0, none⟩) nq cq, ts, sq, kd, .slice (some ⟨gv, 0, none⟩) nv cv, xs, qual, val⟩) (some gr) := grown_trans (grown_trans (grown_below A1 _) gr1 (.inl rfl)) (filled_grown w1 (w.heap.size + 1 + 1) ⟨.slice (some ⟨gr, 0, none⟩) nr cr, fam, .slice (some ⟨gq, 0, none⟩) nq cq, ts, sq, kd, .slice (some ⟨gv, 0, none⟩) nv cv, xs, qual, val⟩) (.inr (fun g hg => by cases hg; omega))
  have fb := filled_box BG1 ⟨.slice (some ⟨gr, 0, none⟩) nr cr, fam, .slice (some ⟨gq, 0, none⟩) nq cq, ts, sq, kd, .slice (some ⟨gv, 0, none⟩) nv cv, xs, qual, val⟩
  obtain ⟨g0, g1, g2, g3, g4, g5, g6⟩ := BG1.cells7
  obtain ⟨gf0, gf1, gf2, gf3, gf4, gf5, gf6⟩ := BG1.fz7
  obtain ⟨m0, m1, m2, m3, m4, m5, m6⟩ := BE1.cells7
  simp only at g0 g1 g2 g3 g4 g5 g6 m0 m1 m2 m3 m4 m5 m6
  have HDN := Lib.hid (And.intro fb (And.intro LR (And.intro LQ (And.intro LV (And.intro LB GG)))))
  clear LR LQ LV LB GG fb BE1 BG1 A1 be bg HE lxo lxg
  simp only [filled] at HDN
  go_wp2
  obtain ⟨fb, LR, LQ, LV, LB, GG⟩ := HDN.out
  clear HDN
  generalize ((((((((w1).setCell ⟨w.heap.size + 1 + 1, 0, none⟩ (.slice (some ⟨gr, 0, none⟩) nr cr)).setCell ⟨w.heap.size + 1 + 1, 1, none⟩ (.int .i64 fam)).setCell ⟨w.heap.size + 1 + 1, 2, none⟩ (.slice (some ⟨gq, 0, none⟩) nq cq)).setCell ⟨w.heap.size + 1 + 1, 3, none⟩ (.int .i64 ts)).setCell ⟨w.heap.size + 1 + 1, 4, none⟩ (.int .i64 sq)).setCell ⟨w.heap.size + 1 + 1, 5, none⟩ (.int .i64 kd)).setCell ⟨w.heap.size + 1 + 1, 6, none⟩ (.slice (some ⟨gv, 0, none⟩) nv cv)) = wz at fb LR LQ LV LB GG ⊢
  obtain ⟨t0, t1, t2, t3, t4, t5, t6⟩ := fb.cells7
  simp only at t0 t1 t2 t3 t4 t5 t6
  (try simp only [Exit.inBlock, Exit.then])
  refine bodyPost_ret (v := .agg #[.slice (some ⟨gr, 0, none⟩) nr cr, .int .i64 fam, .slice (some ⟨gq, 0, none⟩) nq cq, .int .i64 ts, .int .i64 sq, .int .i64 kd, .slice (some ⟨gv, 0, none⟩) nv cv]) ?hres rfl ?_
  case hres => simp [results, Try.results30, go_sem, t0, t1, t2, t3, t4, t5, t6]
  exact ⟨⟨.slice (some ⟨gr, 0, none⟩) nr cr, fam, .slice (some ⟨gq, 0, none⟩) nq cq, ts, sq, kd, .slice (some ⟨gv, 0, none⟩) nv cv, xs, qual, val⟩, [], some gr, rfl, ⟨rfl, rfl, rfl⟩, ⟨LR, LQ, LV⟩, ⟨⟨hx1, hxs⟩, HL.out.2.1.2.1, HL.out.2.1.2.2⟩, LB, HL.out.2.2.2, GG, .inr (.inr (.inl rfl))⟩

set_option maxRecDepth 100000 in
set_option maxHeartbeats 8000000 in
theorem turnedN_qual {gr nr cr gq nq cq gv nv cv B : Nat} {fam ts sq kd : Int} {row qual val : List Nat} {w : World} {a b : Int} (le : LaidE w B ⟨.slice (some ⟨gr, 0, none⟩) nr cr, fam, .slice (some ⟨gq, 0, none⟩) nq cq, ts, sq, kd, .slice (some ⟨gv, 0, none⟩) nv cv, row, qual, val⟩) (fe : EntD.Fine ⟨.slice (some ⟨gr, 0, none⟩) nr cr, fam, .slice (some ⟨gq, 0, none⟩) nq cq, ts, sq, kd, .slice (some ⟨gv, 0, none⟩) nv cv, row, qual, val⟩) (lb : True) (hbs : True) (ap : (gr ≠ gq ∧ gr ≠ gv ∧ gq ≠ gv) ∧ True) :
    Calls Try.prog 30 #[.agg #[.slice (some ⟨gr, 0, none⟩) nr cr, .int .i64 fam, .slice (some ⟨gq, 0, none⟩) nq cq, .int .i64 ts, .int .i64 sq, .int .i64 kd, .slice (some ⟨gv, 0, none⟩) nv cv], .slice none 0 0, .agg #[.int .i64 1, .int .i64 a, .int .i64 b]] w fun r w' => ∃ (D : EntD) (bs' : List Nat) (o : Option Nat), r = .returned (.agg D.cells) ∧ (D.vr = .slice (some ⟨gr, 0, none⟩) nr cr ∧ D.vq = .slice (some ⟨gq, 0, none⟩) nq cq ∧ D.vv = .slice (some ⟨gv, 0, none⟩) nv cv) ∧ LaidE w' B D ∧ EntD.Fine D ∧ True ∧ True ∧ w.grownBy w' o ∧ (o = none ∨ False ∨ o = some gr ∨ o = some gq ∨ o = some gv) := by
  have A1 : Below w.heap.size w (((w.alloc (.cells #[.slice (some ⟨gr, 0, none⟩) nr cr, .int .i64 fam, .slice (some ⟨gq, 0, none⟩) nq cq, .int .i64 ts, .int .i64 sq, .int .i64 kd, .slice (some ⟨gv, 0, none⟩) nv cv] 30)).alloc (.cells #[.int .i64 1, .int .i64 a, .int .i64 b] 62)).alloc (.cells #[.slice none 0 0, .int .i64 0, .slice none 0 0, .int .i64 0, .int .i64 0, .int .i64 0, .slice none 0 0] 30)) := (((Below.refl w.heap.size w).alloc (Nat.le_refl _) _).alloc (by simp) _).alloc (by simp; omega) _
  have be : EBox (((w.alloc (.cells #[.slice (some ⟨gr, 0, none⟩) nr cr, .int .i64 fam, .slice (some ⟨gq, 0, none⟩) nq cq, .int .i64 ts, .int .i64 sq, .int .i64 kd, .slice (some ⟨gv, 0, none⟩) nv cv] 30)).alloc (.cells #[.int .i64 1, .int .i64 a, .int .i64 b] 62)).alloc (.cells #[.slice none 0 0, .int .i64 0, .slice none 0 0, .int .i64 0, .int .i64 0, .int .i64 0, .slice none 0 0] 30)) w.heap.size ⟨.slice (some ⟨gr, 0, none⟩) nr cr, fam, .slice (some ⟨gq, 0, none⟩) nq cq, ts, sq, kd, .slice (some ⟨gv, 0, none⟩) nv cv, row, qual, val⟩ := ((EBox.new w ⟨.slice (some ⟨gr, 0, none⟩) nr cr, fam, .slice (some ⟨gq, 0, none⟩) nq cq, ts, sq, kd, .slice (some ⟨gv, 0, none⟩) nv cv, row, qual, val⟩).later ((Below.refl _ _).alloc (Nat.le_refl _) _)).later ((Below.refl _ _).alloc (Nat.le_refl _) _)
  have bg : EBox (((w.alloc (.cells #[.slice (some ⟨gr, 0, none⟩) nr cr, .int .i64 fam, .slice (some ⟨gq, 0, none⟩) nq cq, .int .i64 ts, .int .i64 sq, .int .i64 kd, .slice (some ⟨gv, 0, none⟩) nv cv] 30)).alloc (.cells #[.int .i64 1, .int .i64 a, .int .i64 b] 62)).alloc (.cells #[.slice none 0 0, .int .i64 0, .slice none 0 0, .int .i64 0, .int .i64 0, .int .i64 0, .slice none 0 0] 30)) (w.heap.size + 1 + 1) ⟨.slice none 0 0, 0, .slice none 0 0, 0, 0, 0, .slice none 0 0, [], [], []⟩ := by
    have h := EBox.new ((w.alloc (.cells #[.slice (some ⟨gr, 0, none⟩) nr cr, .int .i64 fam, .slice (some ⟨gq, 0, none⟩) nq cq, .int .i64 ts, .int .i64 sq, .int .i64 kd, .slice (some ⟨gv, 0, none⟩) nv cv] 30)).alloc (.cells #[.int .i64 1, .int .i64 a, .int .i64 b] 62)) ⟨.slice none 0 0, 0, .slice none 0 0, 0, 0, 0, .slice none 0 0, [], [], []⟩
    rw [World.size_alloc, World.size_alloc] at h
    exact h
  have HE := Lib.hid (And.intro A1 (And.intro be bg))
  have HL := Lib.hid (And.intro le (And.intro fe (And.intro lb hbs)))
  have HA := Lib.hid ap
  clear A1 be bg le fe lb hbs ap
  go_enter Try.func30, Try.ntmps30
  go_wp2_with fail
  refine (put_any (HL.out.1.2.1.later HE.out.1) HL.out.2.1.2.1.2 HL.out.2.1.2.1.1).mono ?_
  rintro r0 w1 ⟨rfl, xs, hxl, hx1, lx, gr1⟩
  obtain ⟨A1, be, bg⟩ := HE.out
  have hs1 : w.heap.size + 1 + 1 + 1 ≤ w1.heap.size := by have := gr1.size; simpa using this
  have oX : Value.ownBlock (.slice (some ⟨gq, 0, none⟩) nq cq) = some gq := rfl
  have lxo : ∀ z, gq = z → EBox (((w.alloc (.cells #[.slice (some ⟨gr, 0, none⟩) nr cr, .int .i64 fam, .slice (some ⟨gq, 0, none⟩) nq cq, .int .i64 ts, .int .i64 sq, .int .i64 kd, .slice (some ⟨gv, 0, none⟩) nv cv] 30)).alloc (.cells #[.int .i64 1, .int .i64 a, .int .i64 b] 62)).alloc (.cells #[.slice none 0 0, .int .i64 0, .slice none 0 0, .int .i64 0, .int .i64 0, .int .i64 0, .slice none 0 0] 30)) z ⟨.slice (some ⟨gr, 0, none⟩) nr cr, fam, .slice (some ⟨gq, 0, none⟩) nq cq, ts, sq, kd, .slice (some ⟨gv, 0, none⟩) nv cv, row, qual, val⟩ → False := fun z hz h => by
    subst hz
    exact laid_ebox (HL.out.1.2.1.later A1) h
  have lxg : ∀ z, gq = z → EBox (((w.alloc (.cells #[.slice (some ⟨gr, 0, none⟩) nr cr, .int .i64 fam, .slice (some ⟨gq, 0, none⟩) nq cq, .int .i64 ts, .int .i64 sq, .int .i64 kd, .slice (some ⟨gv, 0, none⟩) nv cv] 30)).alloc (.cells #[.int .i64 1, .int .i64 a, .int .i64 b] 62)).alloc (.cells #[.slice none 0 0, .int .i64 0, .slice none 0 0, .int .i64 0, .int .i64 0, .int .i64 0, .slice none 0 0] 30)) z ⟨.slice none 0 0, 0, .slice none 0 0, 0, 0, 0, .slice none 0 0, [], [], []⟩ → False := fun z hz h => by
    subst hz
    exact laid_ebox (HL.out.1.2.1.later A1) h
  have BE1 := be.far gr1 (fun z hz e => by cases hz; exact lxo _ e.symm be)
  have BG1 := bg.far gr1 (fun z hz e => by cases hz; exact lxg _ e.symm bg)
  have hfx : qual.length ≤ 5000 := HL.out.2.1.2.1.2
  have hxs : xs.length ≤ 5000 := Nat.le_trans (Nat.le_of_eq hxl) hfx
  have LR := ((HL.out.1.1.later A1).far gr1 (fun g hg h => by cases hg; simp [Value.ownBlock] at h; exact (Ne.symm HA.out.1.1) h.symm)).fillo2 (D := ⟨.slice (some ⟨gr, 0, none⟩) nr cr, fam, .slice (some ⟨gq, 0, none⟩) nq cq, ts, sq, kd, .slice (some ⟨gv, 0, none⟩) nv cv, row, xs, val⟩) BG1
  have LQ := lx.fillo2 (D := ⟨.slice (some ⟨gr, 0, none⟩) nr cr, fam, .slice (some ⟨gq, 0, none⟩) nq cq, ts, sq, kd, .slice (some ⟨gv, 0, none⟩) nv cv, row, xs, val⟩) BG1
  have LV := ((HL.out.1.2.2.later A1).far gr1 (fun g hg h => by cases hg; simp [Value.ownBlock] at h; exact HA.out.1.2.2 h.symm)).fillo2 (D := ⟨.slice (some ⟨gr, 0, none⟩) nr cr, fam, .slice (some ⟨gq, 0, none⟩) nq cq, ts, sq, kd, .slice (some ⟨gv, 0, none⟩) nv cv, row, xs, val⟩) BG1
  have LB : True := trivial
  have GG : w.grownBy (filled w1 (w.heap.size + 1 + 1) ⟨.slice (some ⟨gr, 0, none⟩) nr cr, fam, .slice (some ⟨gq, 0, none⟩) nq cq, ts, sq, kd, .slice (some ⟨gv, 0, none⟩) nv cv, row, xs, val⟩) (some gq) := grown_trans (grown_trans (grown_below A1 _) gr1 (.inl rfl)) (filled_grown w1 (w.heap.size + 1 + 1) ⟨.slice (some ⟨gr, 0, none⟩) nr cr, fam, .slice (some ⟨gq, 0, none⟩) nq cq, ts, sq, kd, .slice (some ⟨gv, 0, none⟩) nv cv, row, xs, val⟩) (.inr (fun g hg => by cases hg; omega))
  have fb := filled_box BG1 ⟨.slice (some ⟨gr, 0, none⟩) nr cr, fam, .slice (some ⟨gq, 0, none⟩) nq cq, ts, sq, kd, .slice (some ⟨gv, 0, none⟩) nv cv, row, xs, val⟩
  obtain ⟨g0, g1, g2, g3, g4, g5, g6⟩ := BG1.cells7
  obtain ⟨gf0, gf1, gf2, gf3, gf4, gf5, gf6⟩ := BG1.fz7
  obtain ⟨m0, m1, m2, m3, m4, m5, m6⟩ := BE1.cells7
  simp only at g0 g1 g2 g3 g4 g5 g6 m0 m1 m2 m3 m4 m5 m6
  have HDN := Lib.hid (And.intro fb (And.intro LR (And.intro LQ (And.intro LV (And.intro LB GG)))))
  clear LR LQ LV LB GG fb BE1 BG1 A1 be bg HE lxo lxg
  simp only [filled] at HDN
  go_wp2
  obtain ⟨fb, LR, LQ, LV, LB, GG⟩ := HDN.out
  clear HDN
  generalize ((((((((w1).setCell ⟨w.heap.size + 1 + 1, 0, none⟩ (.slice (some ⟨gr, 0, none⟩) nr cr)).setCell ⟨w.heap.size + 1 + 1, 1, none⟩ (.int .i64 fam)).setCell ⟨w.heap.size + 1 + 1, 2, none⟩ (.slice (some ⟨gq, 0, none⟩) nq cq)).setCell ⟨w.heap.size + 1 + 1, 3, none⟩ (.int .i64 ts)).setCell ⟨w.heap.size + 1 + 1, 4, none⟩ (.int .i64 sq)).setCell ⟨w.heap.size + 1 + 1, 5, none⟩ (.int .i64 kd)).setCell ⟨w.heap.size + 1 + 1, 6, none⟩ (.slice (some ⟨gv, 0, none⟩) nv cv)) = wz at fb LR LQ LV LB GG ⊢
  obtain ⟨t0, t1, t2, t3, t4, t5, t6⟩ := fb.cells7
  simp only at t0 t1 t2 t3 t4 t5 t6
  (try simp only [Exit.inBlock, Exit.then])
  refine bodyPost_ret (v := .agg #[.slice (some ⟨gr, 0, none⟩) nr cr, .int .i64 fam, .slice (some ⟨gq, 0, none⟩) nq cq, .int .i64 ts, .int .i64 sq, .int .i64 kd, .slice (some ⟨gv, 0, none⟩) nv cv]) ?hres rfl ?_
  case hres => simp [results, Try.results30, go_sem, t0, t1, t2, t3, t4, t5, t6]
  exact ⟨⟨.slice (some ⟨gr, 0, none⟩) nr cr, fam, .slice (some ⟨gq, 0, none⟩) nq cq, ts, sq, kd, .slice (some ⟨gv, 0, none⟩) nv cv, row, xs, val⟩, [], some gq, rfl, ⟨rfl, rfl, rfl⟩, ⟨LR, LQ, LV⟩, ⟨HL.out.2.1.1, ⟨hx1, hxs⟩, HL.out.2.1.2.2⟩, LB, HL.out.2.2.2, GG, .inr (.inr (.inr (.inl rfl)))⟩

set_option maxRecDepth 100000 in
set_option maxHeartbeats 8000000 in
theorem turnedN_val {gr nr cr gq nq cq gv nv cv B : Nat} {fam ts sq kd : Int} {row qual val : List Nat} {w : World} {a b : Int} (le : LaidE w B ⟨.slice (some ⟨gr, 0, none⟩) nr cr, fam, .slice (some ⟨gq, 0, none⟩) nq cq, ts, sq, kd, .slice (some ⟨gv, 0, none⟩) nv cv, row, qual, val⟩) (fe : EntD.Fine ⟨.slice (some ⟨gr, 0, none⟩) nr cr, fam, .slice (some ⟨gq, 0, none⟩) nq cq, ts, sq, kd, .slice (some ⟨gv, 0, none⟩) nv cv, row, qual, val⟩) (lb : True) (hbs : True) (ap : (gr ≠ gq ∧ gr ≠ gv ∧ gq ≠ gv) ∧ True) :
    Calls Try.prog 30 #[.agg #[.slice (some ⟨gr, 0, none⟩) nr cr, .int .i64 fam, .slice (some ⟨gq, 0, none⟩) nq cq, .int .i64 ts, .int .i64 sq, .int .i64 kd, .slice (some ⟨gv, 0, none⟩) nv cv], .slice none 0 0, .agg #[.int .i64 2, .int .i64 a, .int .i64 b]] w fun r w' => ∃ (D : EntD) (bs' : List Nat) (o : Option Nat), r = .returned (.agg D.cells) ∧ (D.vr = .slice (some ⟨gr, 0, none⟩) nr cr ∧ D.vq = .slice (some ⟨gq, 0, none⟩) nq cq ∧ D.vv = .slice (some ⟨gv, 0, none⟩) nv cv) ∧ LaidE w' B D ∧ EntD.Fine D ∧ True ∧ True ∧ w.grownBy w' o ∧ (o = none ∨ False ∨ o = some gr ∨ o = some gq ∨ o = some gv) := by
  have A1 : Below w.heap.size w (((w.alloc (.cells #[.slice (some ⟨gr, 0, none⟩) nr cr, .int .i64 fam, .slice (some ⟨gq, 0, none⟩) nq cq, .int .i64 ts, .int .i64 sq, .int .i64 kd, .slice (some ⟨gv, 0, none⟩) nv cv] 30)).alloc (.cells #[.int .i64 2, .int .i64 a, .int .i64 b] 62)).alloc (.cells #[.slice none 0 0, .int .i64 0, .slice none 0 0, .int .i64 0, .int .i64 0, .int .i64 0, .slice none 0 0] 30)) := (((Below.refl w.heap.size w).alloc (Nat.le_refl _) _).alloc (by simp) _).alloc (by simp; omega) _
  have be : EBox (((w.alloc (.cells #[.slice (some ⟨gr, 0, none⟩) nr cr, .int .i64 fam, .slice (some ⟨gq, 0, none⟩) nq cq, .int .i64 ts, .int .i64 sq, .int .i64 kd, .slice (some ⟨gv, 0, none⟩) nv cv] 30)).alloc (.cells #[.int .i64 2, .int .i64 a, .int .i64 b] 62)).alloc (.cells #[.slice none 0 0, .int .i64 0, .slice none 0 0, .int .i64 0, .int .i64 0, .int .i64 0, .slice none 0 0] 30)) w.heap.size ⟨.slice (some ⟨gr, 0, none⟩) nr cr, fam, .slice (some ⟨gq, 0, none⟩) nq cq, ts, sq, kd, .slice (some ⟨gv, 0, none⟩) nv cv, row, qual, val⟩ := ((EBox.new w ⟨.slice (some ⟨gr, 0, none⟩) nr cr, fam, .slice (some ⟨gq, 0, none⟩) nq cq, ts, sq, kd, .slice (some ⟨gv, 0, none⟩) nv cv, row, qual, val⟩).later ((Below.refl _ _).alloc (Nat.le_refl _) _)).later ((Below.refl _ _).alloc (Nat.le_refl _) _)
  have bg : EBox (((w.alloc (.cells #[.slice (some ⟨gr, 0, none⟩) nr cr, .int .i64 fam, .slice (some ⟨gq, 0, none⟩) nq cq, .int .i64 ts, .int .i64 sq, .int .i64 kd, .slice (some ⟨gv, 0, none⟩) nv cv] 30)).alloc (.cells #[.int .i64 2, .int .i64 a, .int .i64 b] 62)).alloc (.cells #[.slice none 0 0, .int .i64 0, .slice none 0 0, .int .i64 0, .int .i64 0, .int .i64 0, .slice none 0 0] 30)) (w.heap.size + 1 + 1) ⟨.slice none 0 0, 0, .slice none 0 0, 0, 0, 0, .slice none 0 0, [], [], []⟩ := by
    have h := EBox.new ((w.alloc (.cells #[.slice (some ⟨gr, 0, none⟩) nr cr, .int .i64 fam, .slice (some ⟨gq, 0, none⟩) nq cq, .int .i64 ts, .int .i64 sq, .int .i64 kd, .slice (some ⟨gv, 0, none⟩) nv cv] 30)).alloc (.cells #[.int .i64 2, .int .i64 a, .int .i64 b] 62)) ⟨.slice none 0 0, 0, .slice none 0 0, 0, 0, 0, .slice none 0 0, [], [], []⟩
    rw [World.size_alloc, World.size_alloc] at h
    exact h
  have HE := Lib.hid (And.intro A1 (And.intro be bg))
  have HL := Lib.hid (And.intro le (And.intro fe (And.intro lb hbs)))
  have HA := Lib.hid ap
  clear A1 be bg le fe lb hbs ap
  go_enter Try.func30, Try.ntmps30
  go_wp2_with fail
  refine (put_any (HL.out.1.2.2.later HE.out.1) HL.out.2.1.2.2.2 HL.out.2.1.2.2.1).mono ?_
  rintro r0 w1 ⟨rfl, xs, hxl, hx1, lx, gr1⟩
  obtain ⟨A1, be, bg⟩ := HE.out
  have hs1 : w.heap.size + 1 + 1 + 1 ≤ w1.heap.size := by have := gr1.size; simpa using this
  have oX : Value.ownBlock (.slice (some ⟨gv, 0, none⟩) nv cv) = some gv := rfl
  have lxo : ∀ z, gv = z → EBox (((w.alloc (.cells #[.slice (some ⟨gr, 0, none⟩) nr cr, .int .i64 fam, .slice (some ⟨gq, 0, none⟩) nq cq, .int .i64 ts, .int .i64 sq, .int .i64 kd, .slice (some ⟨gv, 0, none⟩) nv cv] 30)).alloc (.cells #[.int .i64 2, .int .i64 a, .int .i64 b] 62)).alloc (.cells #[.slice none 0 0, .int .i64 0, .slice none 0 0, .int .i64 0, .int .i64 0, .int .i64 0, .slice none 0 0] 30)) z ⟨.slice (some ⟨gr, 0, none⟩) nr cr, fam, .slice (some ⟨gq, 0, none⟩) nq cq, ts, sq, kd, .slice (some ⟨gv, 0, none⟩) nv cv, row, qual, val⟩ → False := fun z hz h => by
    subst hz
    exact laid_ebox (HL.out.1.2.2.later A1) h
  have lxg : ∀ z, gv = z → EBox (((w.alloc (.cells #[.slice (some ⟨gr, 0, none⟩) nr cr, .int .i64 fam, .slice (some ⟨gq, 0, none⟩) nq cq, .int .i64 ts, .int .i64 sq, .int .i64 kd, .slice (some ⟨gv, 0, none⟩) nv cv] 30)).alloc (.cells #[.int .i64 2, .int .i64 a, .int .i64 b] 62)).alloc (.cells #[.slice none 0 0, .int .i64 0, .slice none 0 0, .int .i64 0, .int .i64 0, .int .i64 0, .slice none 0 0] 30)) z ⟨.slice none 0 0, 0, .slice none 0 0, 0, 0, 0, .slice none 0 0, [], [], []⟩ → False := fun z hz h => by
    subst hz
    exact laid_ebox (HL.out.1.2.2.later A1) h
  have BE1 := be.far gr1 (fun z hz e => by cases hz; exact lxo _ e.symm be)
  have BG1 := bg.far gr1 (fun z hz e => by cases hz; exact lxg _ e.symm bg)
  have hfx : val.length ≤ 5000 := HL.out.2.1.2.2.2
  have hxs : xs.length ≤ 5000 := Nat.le_trans (Nat.le_of_eq hxl) hfx
  have LR := ((HL.out.1.1.later A1).far gr1 (fun g hg h => by cases hg; simp [Value.ownBlock] at h; exact (Ne.symm HA.out.1.2.1) h.symm)).fillo2 (D := ⟨.slice (some ⟨gr, 0, none⟩) nr cr, fam, .slice (some ⟨gq, 0, none⟩) nq cq, ts, sq, kd, .slice (some ⟨gv, 0, none⟩) nv cv, row, qual, xs⟩) BG1
  have LQ := ((HL.out.1.2.1.later A1).far gr1 (fun g hg h => by cases hg; simp [Value.ownBlock] at h; exact (Ne.symm HA.out.1.2.2) h.symm)).fillo2 (D := ⟨.slice (some ⟨gr, 0, none⟩) nr cr, fam, .slice (some ⟨gq, 0, none⟩) nq cq, ts, sq, kd, .slice (some ⟨gv, 0, none⟩) nv cv, row, qual, xs⟩) BG1
  have LV := lx.fillo2 (D := ⟨.slice (some ⟨gr, 0, none⟩) nr cr, fam, .slice (some ⟨gq, 0, none⟩) nq cq, ts, sq, kd, .slice (some ⟨gv, 0, none⟩) nv cv, row, qual, xs⟩) BG1
  have LB : True := trivial
  have GG : w.grownBy (filled w1 (w.heap.size + 1 + 1) ⟨.slice (some ⟨gr, 0, none⟩) nr cr, fam, .slice (some ⟨gq, 0, none⟩) nq cq, ts, sq, kd, .slice (some ⟨gv, 0, none⟩) nv cv, row, qual, xs⟩) (some gv) := grown_trans (grown_trans (grown_below A1 _) gr1 (.inl rfl)) (filled_grown w1 (w.heap.size + 1 + 1) ⟨.slice (some ⟨gr, 0, none⟩) nr cr, fam, .slice (some ⟨gq, 0, none⟩) nq cq, ts, sq, kd, .slice (some ⟨gv, 0, none⟩) nv cv, row, qual, xs⟩) (.inr (fun g hg => by cases hg; omega))
  have fb := filled_box BG1 ⟨.slice (some ⟨gr, 0, none⟩) nr cr, fam, .slice (some ⟨gq, 0, none⟩) nq cq, ts, sq, kd, .slice (some ⟨gv, 0, none⟩) nv cv, row, qual, xs⟩
  obtain ⟨g0, g1, g2, g3, g4, g5, g6⟩ := BG1.cells7
  obtain ⟨gf0, gf1, gf2, gf3, gf4, gf5, gf6⟩ := BG1.fz7
  obtain ⟨m0, m1, m2, m3, m4, m5, m6⟩ := BE1.cells7
  simp only at g0 g1 g2 g3 g4 g5 g6 m0 m1 m2 m3 m4 m5 m6
  have HDN := Lib.hid (And.intro fb (And.intro LR (And.intro LQ (And.intro LV (And.intro LB GG)))))
  clear LR LQ LV LB GG fb BE1 BG1 A1 be bg HE lxo lxg
  simp only [filled] at HDN
  go_wp2
  obtain ⟨fb, LR, LQ, LV, LB, GG⟩ := HDN.out
  clear HDN
  generalize ((((((((w1).setCell ⟨w.heap.size + 1 + 1, 0, none⟩ (.slice (some ⟨gr, 0, none⟩) nr cr)).setCell ⟨w.heap.size + 1 + 1, 1, none⟩ (.int .i64 fam)).setCell ⟨w.heap.size + 1 + 1, 2, none⟩ (.slice (some ⟨gq, 0, none⟩) nq cq)).setCell ⟨w.heap.size + 1 + 1, 3, none⟩ (.int .i64 ts)).setCell ⟨w.heap.size + 1 + 1, 4, none⟩ (.int .i64 sq)).setCell ⟨w.heap.size + 1 + 1, 5, none⟩ (.int .i64 kd)).setCell ⟨w.heap.size + 1 + 1, 6, none⟩ (.slice (some ⟨gv, 0, none⟩) nv cv)) = wz at fb LR LQ LV LB GG ⊢
  obtain ⟨t0, t1, t2, t3, t4, t5, t6⟩ := fb.cells7
  simp only at t0 t1 t2 t3 t4 t5 t6
  (try simp only [Exit.inBlock, Exit.then])
  refine bodyPost_ret (v := .agg #[.slice (some ⟨gr, 0, none⟩) nr cr, .int .i64 fam, .slice (some ⟨gq, 0, none⟩) nq cq, .int .i64 ts, .int .i64 sq, .int .i64 kd, .slice (some ⟨gv, 0, none⟩) nv cv]) ?hres rfl ?_
  case hres => simp [results, Try.results30, go_sem, t0, t1, t2, t3, t4, t5, t6]
  exact ⟨⟨.slice (some ⟨gr, 0, none⟩) nr cr, fam, .slice (some ⟨gq, 0, none⟩) nq cq, ts, sq, kd, .slice (some ⟨gv, 0, none⟩) nv cv, row, qual, xs⟩, [], some gv, rfl, ⟨rfl, rfl, rfl⟩, ⟨LR, LQ, LV⟩, ⟨HL.out.2.1.1, HL.out.2.1.2.1, ⟨hx1, hxs⟩⟩, LB, HL.out.2.2.2, GG, .inr (.inr (.inr (.inr rfl)))⟩

set_option maxRecDepth 100000 in
set_option maxHeartbeats 8000000 in
theorem turnedN_nil {gr nr cr gq nq cq gv nv cv B : Nat} {fam ts sq kd : Int} {row qual val : List Nat} {w : World} {k a b : Int} (h0 : (k == 0) = false) (h1 : (k == 1) = false) (h2 : (k == 2) = false) (h3 : (k == 3) = false) (h4 : (k == 4) = false) (h5 : (k == 5) = false) (h6 : (k == 6) = false) (le : LaidE w B ⟨.slice (some ⟨gr, 0, none⟩) nr cr, fam, .slice (some ⟨gq, 0, none⟩) nq cq, ts, sq, kd, .slice (some ⟨gv, 0, none⟩) nv cv, row, qual, val⟩) (fe : EntD.Fine ⟨.slice (some ⟨gr, 0, none⟩) nr cr, fam, .slice (some ⟨gq, 0, none⟩) nq cq, ts, sq, kd, .slice (some ⟨gv, 0, none⟩) nv cv, row, qual, val⟩) (lb : True) (hbs : True) (ap : (gr ≠ gq ∧ gr ≠ gv ∧ gq ≠ gv) ∧ True) :
    Calls Try.prog 30 #[.agg #[.slice (some ⟨gr, 0, none⟩) nr cr, .int .i64 fam, .slice (some ⟨gq, 0, none⟩) nq cq, .int .i64 ts, .int .i64 sq, .int .i64 kd, .slice (some ⟨gv, 0, none⟩) nv cv], .slice none 0 0, .agg #[.int .i64 k, .int .i64 a, .int .i64 b]] w fun r w' => ∃ (D : EntD) (bs' : List Nat) (o : Option Nat), r = .returned (.agg D.cells) ∧ (D.vr = .slice (some ⟨gr, 0, none⟩) nr cr ∧ D.vq = .slice (some ⟨gq, 0, none⟩) nq cq ∧ D.vv = .slice (some ⟨gv, 0, none⟩) nv cv) ∧ LaidE w' B D ∧ EntD.Fine D ∧ True ∧ True ∧ w.grownBy w' o ∧ (o = none ∨ False ∨ o = some gr ∨ o = some gq ∨ o = some gv) := by
  have A1 : Below w.heap.size w (((w.alloc (.cells #[.slice (some ⟨gr, 0, none⟩) nr cr, .int .i64 fam, .slice (some ⟨gq, 0, none⟩) nq cq, .int .i64 ts, .int .i64 sq, .int .i64 kd, .slice (some ⟨gv, 0, none⟩) nv cv] 30)).alloc (.cells #[.int .i64 k, .int .i64 a, .int .i64 b] 62)).alloc (.cells #[.slice (some ⟨gr, 0, none⟩) nr cr, .int .i64 fam, .slice (some ⟨gq, 0, none⟩) nq cq, .int .i64 ts, .int .i64 sq, .int .i64 kd, .slice (some ⟨gv, 0, none⟩) nv cv] 30)) := (((Below.refl w.heap.size w).alloc (Nat.le_refl _) _).alloc (by simp) _).alloc (by simp; omega) _
  have bg : EBox (((w.alloc (.cells #[.slice (some ⟨gr, 0, none⟩) nr cr, .int .i64 fam, .slice (some ⟨gq, 0, none⟩) nq cq, .int .i64 ts, .int .i64 sq, .int .i64 kd, .slice (some ⟨gv, 0, none⟩) nv cv] 30)).alloc (.cells #[.int .i64 k, .int .i64 a, .int .i64 b] 62)).alloc (.cells #[.slice (some ⟨gr, 0, none⟩) nr cr, .int .i64 fam, .slice (some ⟨gq, 0, none⟩) nq cq, .int .i64 ts, .int .i64 sq, .int .i64 kd, .slice (some ⟨gv, 0, none⟩) nv cv] 30)) (w.heap.size + 1 + 1) ⟨.slice (some ⟨gr, 0, none⟩) nr cr, fam, .slice (some ⟨gq, 0, none⟩) nq cq, ts, sq, kd, .slice (some ⟨gv, 0, none⟩) nv cv, row, qual, val⟩ := by
    have h := EBox.new ((w.alloc (.cells #[.slice (some ⟨gr, 0, none⟩) nr cr, .int .i64 fam, .slice (some ⟨gq, 0, none⟩) nq cq, .int .i64 ts, .int .i64 sq, .int .i64 kd, .slice (some ⟨gv, 0, none⟩) nv cv] 30)).alloc (.cells #[.int .i64 k, .int .i64 a, .int .i64 b] 62)) ⟨.slice (some ⟨gr, 0, none⟩) nr cr, fam, .slice (some ⟨gq, 0, none⟩) nq cq, ts, sq, kd, .slice (some ⟨gv, 0, none⟩) nv cv, row, qual, val⟩
    rw [World.size_alloc, World.size_alloc] at h
    exact h
  have HE := Lib.hid (And.intro A1 bg)
  have HL := Lib.hid (And.intro le (And.intro fe (And.intro lb hbs)))
  clear A1 bg le fe lb hbs ap
  go_enter Try.func30, Try.ntmps30
  go_wp2_with (go_at_call 54; refine Calls.mono (putN_any _ a b) ?_; rintro z wz ⟨rfl, rfl⟩)
  obtain ⟨A1, bg⟩ := HE.out
  clear HE
  generalize (((w.alloc (.cells #[.slice (some ⟨gr, 0, none⟩) nr cr, .int .i64 fam, .slice (some ⟨gq, 0, none⟩) nq cq, .int .i64 ts, .int .i64 sq, .int .i64 kd, .slice (some ⟨gv, 0, none⟩) nv cv] 30)).alloc (.cells #[.int .i64 k, .int .i64 a, .int .i64 b] 62)).alloc (.cells #[.slice (some ⟨gr, 0, none⟩) nr cr, .int .i64 fam, .slice (some ⟨gq, 0, none⟩) nq cq, .int .i64 ts, .int .i64 sq, .int .i64 kd, .slice (some ⟨gv, 0, none⟩) nv cv] 30)) = wz at A1 bg ⊢
  obtain ⟨t0, t1, t2, t3, t4, t5, t6⟩ := bg.cells7
  simp only at t0 t1 t2 t3 t4 t5 t6
  (try simp only [Exit.inBlock, Exit.then])
  refine bodyPost_ret (v := .agg #[.slice (some ⟨gr, 0, none⟩) nr cr, .int .i64 fam, .slice (some ⟨gq, 0, none⟩) nq cq, .int .i64 ts, .int .i64 sq, .int .i64 kd, .slice (some ⟨gv, 0, none⟩) nv cv]) ?hres rfl ?_
  case hres => simp [results, Try.results30, go_sem, t0, t1, t2, t3, t4, t5, t6]
  have l2 := HL.out.1.later A1
  exact ⟨⟨.slice (some ⟨gr, 0, none⟩) nr cr, fam, .slice (some ⟨gq, 0, none⟩) nq cq, ts, sq, kd, .slice (some ⟨gv, 0, none⟩) nv cv, row, qual, val⟩, [], none, rfl, ⟨rfl, rfl, rfl⟩, ⟨l2.1, l2.2.1, l2.2.2⟩, HL.out.2.1, trivial, HL.out.2.2.2, grown_below A1 none, .inl rfl⟩

theorem turnedN_any {gr nr cr gq nq cq gv nv cv B : Nat} {fam ts sq kd : Int} {row qual val : List Nat} {w : World} {k a b : Int} (le : LaidE w B ⟨.slice (some ⟨gr, 0, none⟩) nr cr, fam, .slice (some ⟨gq, 0, none⟩) nq cq, ts, sq, kd, .slice (some ⟨gv, 0, none⟩) nv cv, row, qual, val⟩) (fe : EntD.Fine ⟨.slice (some ⟨gr, 0, none⟩) nr cr, fam, .slice (some ⟨gq, 0, none⟩) nq cq, ts, sq, kd, .slice (some ⟨gv, 0, none⟩) nv cv, row, qual, val⟩) (lb : True) (hbs : True) (ap : (gr ≠ gq ∧ gr ≠ gv ∧ gq ≠ gv) ∧ True) :
    Calls Try.prog 30 #[.agg #[.slice (some ⟨gr, 0, none⟩) nr cr, .int .i64 fam, .slice (some ⟨gq, 0, none⟩) nq cq, .int .i64 ts, .int .i64 sq, .int .i64 kd, .slice (some ⟨gv, 0, none⟩) nv cv], .slice none 0 0, .agg #[.int .i64 k, .int .i64 a, .int .i64 b]] w fun r w' => ∃ (D : EntD) (bs' : List Nat) (o : Option Nat), r = .returned (.agg D.cells) ∧ (D.vr = .slice (some ⟨gr, 0, none⟩) nr cr ∧ D.vq = .slice (some ⟨gq, 0, none⟩) nq cq ∧ D.vv = .slice (some ⟨gv, 0, none⟩) nv cv) ∧ LaidE w' B D ∧ EntD.Fine D ∧ True ∧ True ∧ w.grownBy w' o ∧ (o = none ∨ False ∨ o = some gr ∨ o = some gq ∨ o = some gv) := by
  by_cases h0 : k = 0
  · subst h0; exact turnedN_row le fe lb hbs ap
  by_cases h1 : k = 1
  · subst h1; exact turnedN_qual le fe lb hbs ap
  by_cases h2 : k = 2
  · subst h2; exact turnedN_val le fe lb hbs ap
  by_cases h3 : k = 3
  · subst h3; exact turnedN_fam le fe lb hbs ap
  by_cases h4 : k = 4
  · subst h4; exact turnedN_ts le fe lb hbs ap
  by_cases h5 : k = 5
  · subst h5; exact turnedN_sq le fe lb hbs ap
  by_cases h6 : k = 6
  · subst h6; exact turnedN_kd le fe lb hbs ap
  exact turnedN_nil (by simpa using h0) (by simpa using h1) (by simpa using h2) (by simpa using h3) (by simpa using h4) (by simpa using h5) (by simpa using h6) le fe lb hbs ap
end Go.Proofs.Ytnjopfdeapclhaa
