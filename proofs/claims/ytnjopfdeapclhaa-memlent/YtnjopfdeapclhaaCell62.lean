import Derived.Test.YtnjopfdeapclhaaJ28
import Derived.Test.YtnjopfdeapclhaaJ29
import Derived.Lib.Hide
namespace Go.Proofs.Ytnjopfdeapclhaa
open Go.RowKit
set_option linter.unusedVariables false

theorem laid_ebox {w : World} {B g n c : Nat} {bs : List Nat} {e : EntD} (h : Laid w B (.slice (some ⟨g, 0, none⟩) n c) bs) (k : EBox w g e) : False := by
  obtain ⟨g2, c2, h1, h2, h3, h4⟩ := h
  simp only [Value.slice.injEq, Option.some.injEq] at h1
  obtain ⟨e1, rfl, rfl⟩ := h1
  obtain rfl : g = g2 := by injection e1
  exact ebox_own k h4 rfl rfl
theorem Laid.fillo2 {w : World} {B g : Nat} {u : Value} {bs : List Nat} {D0 D : EntD} (h : Laid w B u bs) (hg : EBox w g D0) : Laid (filled w g D) B u bs := h.fillB hg

set_option maxRecDepth 100000 in
set_option maxHeartbeats 8000000 in
theorem turned_fam {gr nr cr gq nq cq gv nv cv gb nb cb B : Nat} {fam ts sq kd : Int} {row qual val bs : List Nat} {w : World} {a b : Int} (le : LaidE w B ⟨.slice (some ⟨gr, 0, none⟩) nr cr, fam, .slice (some ⟨gq, 0, none⟩) nq cq, ts, sq, kd, .slice (some ⟨gv, 0, none⟩) nv cv, row, qual, val⟩) (fe : EntD.Fine ⟨.slice (some ⟨gr, 0, none⟩) nr cr, fam, .slice (some ⟨gq, 0, none⟩) nq cq, ts, sq, kd, .slice (some ⟨gv, 0, none⟩) nv cv, row, qual, val⟩) (lb : Laid w B (.slice (some ⟨gb, 0, none⟩) nb cb) bs) (hbs : Bys bs ∧ bs.length ≤ 5000) (ap : (gr ≠ gq ∧ gr ≠ gv ∧ gq ≠ gv) ∧ (gb ≠ gr ∧ gb ≠ gq ∧ gb ≠ gv)) :
    Calls Try.prog 30 #[.agg #[.slice (some ⟨gr, 0, none⟩) nr cr, .int .i64 fam, .slice (some ⟨gq, 0, none⟩) nq cq, .int .i64 ts, .int .i64 sq, .int .i64 kd, .slice (some ⟨gv, 0, none⟩) nv cv], .slice (some ⟨gb, 0, none⟩) nb cb, .agg #[.int .i64 3, .int .i64 a, .int .i64 b]] w fun r w' => ∃ D bs' o, r = .returned (.agg D.cells) ∧ (D.vr = .slice (some ⟨gr, 0, none⟩) nr cr ∧ D.vq = .slice (some ⟨gq, 0, none⟩) nq cq ∧ D.vv = .slice (some ⟨gv, 0, none⟩) nv cv) ∧ LaidE w' B D ∧ EntD.Fine D ∧ Laid w' B (.slice (some ⟨gb, 0, none⟩) nb cb) bs' ∧ (Bys bs' ∧ bs'.length ≤ 5000) ∧ w.grownBy w' o ∧ (o = none ∨ o = some gb ∨ o = some gr ∨ o = some gq ∨ o = some gv) := by
  have A1 : Below w.heap.size w (((w.alloc (.cells #[.slice (some ⟨gr, 0, none⟩) nr cr, .int .i64 b, .slice (some ⟨gq, 0, none⟩) nq cq, .int .i64 ts, .int .i64 sq, .int .i64 kd, .slice (some ⟨gv, 0, none⟩) nv cv] 30)).alloc (.cells #[.int .i64 3, .int .i64 a, .int .i64 b] 62)).alloc (.cells #[.slice (some ⟨gr, 0, none⟩) nr cr, .int .i64 b, .slice (some ⟨gq, 0, none⟩) nq cq, .int .i64 ts, .int .i64 sq, .int .i64 kd, .slice (some ⟨gv, 0, none⟩) nv cv] 30)) := (((Below.refl w.heap.size w).alloc (Nat.le_refl _) _).alloc (by simp) _).alloc (by simp; omega) _
  have bg : EBox (((w.alloc (.cells #[.slice (some ⟨gr, 0, none⟩) nr cr, .int .i64 b, .slice (some ⟨gq, 0, none⟩) nq cq, .int .i64 ts, .int .i64 sq, .int .i64 kd, .slice (some ⟨gv, 0, none⟩) nv cv] 30)).alloc (.cells #[.int .i64 3, .int .i64 a, .int .i64 b] 62)).alloc (.cells #[.slice (some ⟨gr, 0, none⟩) nr cr, .int .i64 b, .slice (some ⟨gq, 0, none⟩) nq cq, .int .i64 ts, .int .i64 sq, .int .i64 kd, .slice (some ⟨gv, 0, none⟩) nv cv] 30)) (w.heap.size + 1 + 1) ⟨.slice (some ⟨gr, 0, none⟩) nr cr, b, .slice (some ⟨gq, 0, none⟩) nq cq, ts, sq, kd, .slice (some ⟨gv, 0, none⟩) nv cv, row, qual, val⟩ := by
    have h := EBox.new ((w.alloc (.cells #[.slice (some ⟨gr, 0, none⟩) nr cr, .int .i64 b, .slice (some ⟨gq, 0, none⟩) nq cq, .int .i64 ts, .int .i64 sq, .int .i64 kd, .slice (some ⟨gv, 0, none⟩) nv cv] 30)).alloc (.cells #[.int .i64 3, .int .i64 a, .int .i64 b] 62)) ⟨.slice (some ⟨gr, 0, none⟩) nr cr, b, .slice (some ⟨gq, 0, none⟩) nq cq, ts, sq, kd, .slice (some ⟨gv, 0, none⟩) nv cv, row, qual, val⟩
    rw [World.size_alloc, World.size_alloc] at h
    exact h
  have HE := Lib.hid (And.intro A1 bg)
  have HL := Lib.hid (And.intro le (And.intro fe (And.intro lb hbs)))
  clear A1 bg le fe lb hbs ap
  go_enter Try.func30, Try.ntmps30
  go_wp2
  obtain ⟨A1, bg⟩ := HE.out
  clear HE
  generalize (((w.alloc (.cells #[.slice (some ⟨gr, 0, none⟩) nr cr, .int .i64 b, .slice (some ⟨gq, 0, none⟩) nq cq, .int .i64 ts, .int .i64 sq, .int .i64 kd, .slice (some ⟨gv, 0, none⟩) nv cv] 30)).alloc (.cells #[.int .i64 3, .int .i64 a, .int .i64 b] 62)).alloc (.cells #[.slice (some ⟨gr, 0, none⟩) nr cr, .int .i64 b, .slice (some ⟨gq, 0, none⟩) nq cq, .int .i64 ts, .int .i64 sq, .int .i64 kd, .slice (some ⟨gv, 0, none⟩) nv cv] 30)) = wz at A1 bg ⊢
  obtain ⟨t0, t1, t2, t3, t4, t5, t6⟩ := bg.cells7
  simp only at t0 t1 t2 t3 t4 t5 t6
  (try simp only [Exit.inBlock, Exit.then])
  refine bodyPost_ret (v := .agg #[.slice (some ⟨gr, 0, none⟩) nr cr, .int .i64 b, .slice (some ⟨gq, 0, none⟩) nq cq, .int .i64 ts, .int .i64 sq, .int .i64 kd, .slice (some ⟨gv, 0, none⟩) nv cv]) ?hres rfl ?_
  case hres => simp [results, Try.results30, go_sem, t0, t1, t2, t3, t4, t5, t6]
  have l2 := HL.out.1.later A1
  exact ⟨⟨.slice (some ⟨gr, 0, none⟩) nr cr, b, .slice (some ⟨gq, 0, none⟩) nq cq, ts, sq, kd, .slice (some ⟨gv, 0, none⟩) nv cv, row, qual, val⟩, bs, none, rfl, ⟨rfl, rfl, rfl⟩, ⟨l2.1, l2.2.1, l2.2.2⟩, HL.out.2.1, HL.out.2.2.1.later A1, HL.out.2.2.2, grown_below A1 none, .inl rfl⟩

set_option maxRecDepth 100000 in
set_option maxHeartbeats 8000000 in
theorem turned_ts {gr nr cr gq nq cq gv nv cv gb nb cb B : Nat} {fam ts sq kd : Int} {row qual val bs : List Nat} {w : World} {a b : Int} (le : LaidE w B ⟨.slice (some ⟨gr, 0, none⟩) nr cr, fam, .slice (some ⟨gq, 0, none⟩) nq cq, ts, sq, kd, .slice (some ⟨gv, 0, none⟩) nv cv, row, qual, val⟩) (fe : EntD.Fine ⟨.slice (some ⟨gr, 0, none⟩) nr cr, fam, .slice (some ⟨gq, 0, none⟩) nq cq, ts, sq, kd, .slice (some ⟨gv, 0, none⟩) nv cv, row, qual, val⟩) (lb : Laid w B (.slice (some ⟨gb, 0, none⟩) nb cb) bs) (hbs : Bys bs ∧ bs.length ≤ 5000) (ap : (gr ≠ gq ∧ gr ≠ gv ∧ gq ≠ gv) ∧ (gb ≠ gr ∧ gb ≠ gq ∧ gb ≠ gv)) :
    Calls Try.prog 30 #[.agg #[.slice (some ⟨gr, 0, none⟩) nr cr, .int .i64 fam, .slice (some ⟨gq, 0, none⟩) nq cq, .int .i64 ts, .int .i64 sq, .int .i64 kd, .slice (some ⟨gv, 0, none⟩) nv cv], .slice (some ⟨gb, 0, none⟩) nb cb, .agg #[.int .i64 4, .int .i64 a, .int .i64 b]] w fun r w' => ∃ D bs' o, r = .returned (.agg D.cells) ∧ (D.vr = .slice (some ⟨gr, 0, none⟩) nr cr ∧ D.vq = .slice (some ⟨gq, 0, none⟩) nq cq ∧ D.vv = .slice (some ⟨gv, 0, none⟩) nv cv) ∧ LaidE w' B D ∧ EntD.Fine D ∧ Laid w' B (.slice (some ⟨gb, 0, none⟩) nb cb) bs' ∧ (Bys bs' ∧ bs'.length ≤ 5000) ∧ w.grownBy w' o ∧ (o = none ∨ o = some gb ∨ o = some gr ∨ o = some gq ∨ o = some gv) := by
  have A1 : Below w.heap.size w (((w.alloc (.cells #[.slice (some ⟨gr, 0, none⟩) nr cr, .int .i64 fam, .slice (some ⟨gq, 0, none⟩) nq cq, .int .i64 b, .int .i64 sq, .int .i64 kd, .slice (some ⟨gv, 0, none⟩) nv cv] 30)).alloc (.cells #[.int .i64 4, .int .i64 a, .int .i64 b] 62)).alloc (.cells #[.slice (some ⟨gr, 0, none⟩) nr cr, .int .i64 fam, .slice (some ⟨gq, 0, none⟩) nq cq, .int .i64 b, .int .i64 sq, .int .i64 kd, .slice (some ⟨gv, 0, none⟩) nv cv] 30)) := (((Below.refl w.heap.size w).alloc (Nat.le_refl _) _).alloc (by simp) _).alloc (by simp; omega) _
  have bg : EBox (((w.alloc (.cells #[.slice (some ⟨gr, 0, none⟩) nr cr, .int .i64 fam, .slice (some ⟨gq, 0, none⟩) nq cq, .int .i64 b, .int .i64 sq, .int .i64 kd, .slice (some ⟨gv, 0, none⟩) nv cv] 30)).alloc (.cells #[.int .i64 4, .int .i64 a, .int .i64 b] 62)).alloc (.cells #[.slice (some ⟨gr, 0, none⟩) nr cr, .int .i64 fam, .slice (some ⟨gq, 0, none⟩) nq cq, .int .i64 b, .int .i64 sq, .int .i64 kd, .slice (some ⟨gv, 0, none⟩) nv cv] 30)) (w.heap.size + 1 + 1) ⟨.slice (some ⟨gr, 0, none⟩) nr cr, fam, .slice (some ⟨gq, 0, none⟩) nq cq, b, sq, kd, .slice (some ⟨gv, 0, none⟩) nv cv, row, qual, val⟩ := by
    have h := EBox.new ((w.alloc (.cells #[.slice (some ⟨gr, 0, none⟩) nr cr, .int .i64 fam, .slice (some ⟨gq, 0, none⟩) nq cq, .int .i64 b, .int .i64 sq, .int .i64 kd, .slice (some ⟨gv, 0, none⟩) nv cv] 30)).alloc (.cells #[.int .i64 4, .int .i64 a, .int .i64 b] 62)) ⟨.slice (some ⟨gr, 0, none⟩) nr cr, fam, .slice (some ⟨gq, 0, none⟩) nq cq, b, sq, kd, .slice (some ⟨gv, 0, none⟩) nv cv, row, qual, val⟩
    rw [World.size_alloc, World.size_alloc] at h
    exact h
  have HE := Lib.hid (And.intro A1 bg)
  have HL := Lib.hid (And.intro le (And.intro fe (And.intro lb hbs)))
  clear A1 bg le fe lb hbs ap
  go_enter Try.func30, Try.ntmps30
  go_wp2
  obtain ⟨A1, bg⟩ := HE.out
  clear HE
  generalize (((w.alloc (.cells #[.slice (some ⟨gr, 0, none⟩) nr cr, .int .i64 fam, .slice (some ⟨gq, 0, none⟩) nq cq, .int .i64 b, .int .i64 sq, .int .i64 kd, .slice (some ⟨gv, 0, none⟩) nv cv] 30)).alloc (.cells #[.int .i64 4, .int .i64 a, .int .i64 b] 62)).alloc (.cells #[.slice (some ⟨gr, 0, none⟩) nr cr, .int .i64 fam, .slice (some ⟨gq, 0, none⟩) nq cq, .int .i64 b, .int .i64 sq, .int .i64 kd, .slice (some ⟨gv, 0, none⟩) nv cv] 30)) = wz at A1 bg ⊢
  obtain ⟨t0, t1, t2, t3, t4, t5, t6⟩ := bg.cells7
  simp only at t0 t1 t2 t3 t4 t5 t6
  (try simp only [Exit.inBlock, Exit.then])
  refine bodyPost_ret (v := .agg #[.slice (some ⟨gr, 0, none⟩) nr cr, .int .i64 fam, .slice (some ⟨gq, 0, none⟩) nq cq, .int .i64 b, .int .i64 sq, .int .i64 kd, .slice (some ⟨gv, 0, none⟩) nv cv]) ?hres rfl ?_
  case hres => simp [results, Try.results30, go_sem, t0, t1, t2, t3, t4, t5, t6]
  have l2 := HL.out.1.later A1
  exact ⟨⟨.slice (some ⟨gr, 0, none⟩) nr cr, fam, .slice (some ⟨gq, 0, none⟩) nq cq, b, sq, kd, .slice (some ⟨gv, 0, none⟩) nv cv, row, qual, val⟩, bs, none, rfl, ⟨rfl, rfl, rfl⟩, ⟨l2.1, l2.2.1, l2.2.2⟩, HL.out.2.1, HL.out.2.2.1.later A1, HL.out.2.2.2, grown_below A1 none, .inl rfl⟩

set_option maxRecDepth 100000 in
set_option maxHeartbeats 8000000 in
theorem turned_sq {gr nr cr gq nq cq gv nv cv gb nb cb B : Nat} {fam ts sq kd : Int} {row qual val bs : List Nat} {w : World} {a b : Int} (le : LaidE w B ⟨.slice (some ⟨gr, 0, none⟩) nr cr, fam, .slice (some ⟨gq, 0, none⟩) nq cq, ts, sq, kd, .slice (some ⟨gv, 0, none⟩) nv cv, row, qual, val⟩) (fe : EntD.Fine ⟨.slice (some ⟨gr, 0, none⟩) nr cr, fam, .slice (some ⟨gq, 0, none⟩) nq cq, ts, sq, kd, .slice (some ⟨gv, 0, none⟩) nv cv, row, qual, val⟩) (lb : Laid w B (.slice (some ⟨gb, 0, none⟩) nb cb) bs) (hbs : Bys bs ∧ bs.length ≤ 5000) (ap : (gr ≠ gq ∧ gr ≠ gv ∧ gq ≠ gv) ∧ (gb ≠ gr ∧ gb ≠ gq ∧ gb ≠ gv)) :
    Calls Try.prog 30 #[.agg #[.slice (some ⟨gr, 0, none⟩) nr cr, .int .i64 fam, .slice (some ⟨gq, 0, none⟩) nq cq, .int .i64 ts, .int .i64 sq, .int .i64 kd, .slice (some ⟨gv, 0, none⟩) nv cv], .slice (some ⟨gb, 0, none⟩) nb cb, .agg #[.int .i64 5, .int .i64 a, .int .i64 b]] w fun r w' => ∃ D bs' o, r = .returned (.agg D.cells) ∧ (D.vr = .slice (some ⟨gr, 0, none⟩) nr cr ∧ D.vq = .slice (some ⟨gq, 0, none⟩) nq cq ∧ D.vv = .slice (some ⟨gv, 0, none⟩) nv cv) ∧ LaidE w' B D ∧ EntD.Fine D ∧ Laid w' B (.slice (some ⟨gb, 0, none⟩) nb cb) bs' ∧ (Bys bs' ∧ bs'.length ≤ 5000) ∧ w.grownBy w' o ∧ (o = none ∨ o = some gb ∨ o = some gr ∨ o = some gq ∨ o = some gv) := by
  have A1 : Below w.heap.size w (((w.alloc (.cells #[.slice (some ⟨gr, 0, none⟩) nr cr, .int .i64 fam, .slice (some ⟨gq, 0, none⟩) nq cq, .int .i64 ts, .int .i64 b, .int .i64 kd, .slice (some ⟨gv, 0, none⟩) nv cv] 30)).alloc (.cells #[.int .i64 5, .int .i64 a, .int .i64 b] 62)).alloc (.cells #[.slice (some ⟨gr, 0, none⟩) nr cr, .int .i64 fam, .slice (some ⟨gq, 0, none⟩) nq cq, .int .i64 ts, .int .i64 b, .int .i64 kd, .slice (some ⟨gv, 0, none⟩) nv cv] 30)) := (((Below.refl w.heap.size w).alloc (Nat.le_refl _) _).alloc (by simp) _).alloc (by simp; omega) _
  have bg : EBox (((w.alloc (.cells #[.slice (some ⟨gr, 0, none⟩) nr cr, .int .i64 fam, .slice (some ⟨gq, 0, none⟩) nq cq, .int .i64 ts, .int .i64 b, .int .i64 kd, .slice (some ⟨gv, 0, none⟩) nv cv] 30)).alloc (.cells #[.int .i64 5, .int .i64 a, .int .i64 b] 62)).alloc (.cells #[.slice (some ⟨gr, 0, none⟩) nr cr, .int .i64 fam, .slice (some ⟨gq, 0, none⟩) nq cq, .int .i64 ts, .int .i64 b, .int .i64 kd, .slice (some ⟨gv, 0, none⟩) nv cv] 30)) (w.heap.size + 1 + 1) ⟨.slice (some ⟨gr, 0, none⟩) nr cr, fam, .slice (some ⟨gq, 0, none⟩) nq cq, ts, b, kd, .slice (some ⟨gv, 0, none⟩) nv cv, row, qual, val⟩ := by
    have h := EBox.new ((w.alloc (.cells #[.slice (some ⟨gr, 0, none⟩) nr cr, .int .i64 fam, .slice (some ⟨gq, 0, none⟩) nq cq, .int .i64 ts, .int .i64 b, .int .i64 kd, .slice (some ⟨gv, 0, none⟩) nv cv] 30)).alloc (.cells #[.int .i64 5, .int .i64 a, .int .i64 b] 62)) ⟨.slice (some ⟨gr, 0, none⟩) nr cr, fam, .slice (some ⟨gq, 0, none⟩) nq cq, ts, b, kd, .slice (some ⟨gv, 0, none⟩) nv cv, row, qual, val⟩
    rw [World.size_alloc, World.size_alloc] at h
    exact h
  have HE := Lib.hid (And.intro A1 bg)
  have HL := Lib.hid (And.intro le (And.intro fe (And.intro lb hbs)))
  clear A1 bg le fe lb hbs ap
  go_enter Try.func30, Try.ntmps30
  go_wp2
  obtain ⟨A1, bg⟩ := HE.out
  clear HE
  generalize (((w.alloc (.cells #[.slice (some ⟨gr, 0, none⟩) nr cr, .int .i64 fam, .slice (some ⟨gq, 0, none⟩) nq cq, .int .i64 ts, .int .i64 b, .int .i64 kd, .slice (some ⟨gv, 0, none⟩) nv cv] 30)).alloc (.cells #[.int .i64 5, .int .i64 a, .int .i64 b] 62)).alloc (.cells #[.slice (some ⟨gr, 0, none⟩) nr cr, .int .i64 fam, .slice (some ⟨gq, 0, none⟩) nq cq, .int .i64 ts, .int .i64 b, .int .i64 kd, .slice (some ⟨gv, 0, none⟩) nv cv] 30)) = wz at A1 bg ⊢
  obtain ⟨t0, t1, t2, t3, t4, t5, t6⟩ := bg.cells7
  simp only at t0 t1 t2 t3 t4 t5 t6
  (try simp only [Exit.inBlock, Exit.then])
  refine bodyPost_ret (v := .agg #[.slice (some ⟨gr, 0, none⟩) nr cr, .int .i64 fam, .slice (some ⟨gq, 0, none⟩) nq cq, .int .i64 ts, .int .i64 b, .int .i64 kd, .slice (some ⟨gv, 0, none⟩) nv cv]) ?hres rfl ?_
  case hres => simp [results, Try.results30, go_sem, t0, t1, t2, t3, t4, t5, t6]
  have l2 := HL.out.1.later A1
  exact ⟨⟨.slice (some ⟨gr, 0, none⟩) nr cr, fam, .slice (some ⟨gq, 0, none⟩) nq cq, ts, b, kd, .slice (some ⟨gv, 0, none⟩) nv cv, row, qual, val⟩, bs, none, rfl, ⟨rfl, rfl, rfl⟩, ⟨l2.1, l2.2.1, l2.2.2⟩, HL.out.2.1, HL.out.2.2.1.later A1, HL.out.2.2.2, grown_below A1 none, .inl rfl⟩

set_option maxRecDepth 100000 in
set_option maxHeartbeats 8000000 in
theorem turned_kd {gr nr cr gq nq cq gv nv cv gb nb cb B : Nat} {fam ts sq kd : Int} {row qual val bs : List Nat} {w : World} {a b : Int} (le : LaidE w B ⟨.slice (some ⟨gr, 0, none⟩) nr cr, fam, .slice (some ⟨gq, 0, none⟩) nq cq, ts, sq, kd, .slice (some ⟨gv, 0, none⟩) nv cv, row, qual, val⟩) (fe : EntD.Fine ⟨.slice (some ⟨gr, 0, none⟩) nr cr, fam, .slice (some ⟨gq, 0, none⟩) nq cq, ts, sq, kd, .slice (some ⟨gv, 0, none⟩) nv cv, row, qual, val⟩) (lb : Laid w B (.slice (some ⟨gb, 0, none⟩) nb cb) bs) (hbs : Bys bs ∧ bs.length ≤ 5000) (ap : (gr ≠ gq ∧ gr ≠ gv ∧ gq ≠ gv) ∧ (gb ≠ gr ∧ gb ≠ gq ∧ gb ≠ gv)) :
    Calls Try.prog 30 #[.agg #[.slice (some ⟨gr, 0, none⟩) nr cr, .int .i64 fam, .slice (some ⟨gq, 0, none⟩) nq cq, .int .i64 ts, .int .i64 sq, .int .i64 kd, .slice (some ⟨gv, 0, none⟩) nv cv], .slice (some ⟨gb, 0, none⟩) nb cb, .agg #[.int .i64 6, .int .i64 a, .int .i64 b]] w fun r w' => ∃ D bs' o, r = .returned (.agg D.cells) ∧ (D.vr = .slice (some ⟨gr, 0, none⟩) nr cr ∧ D.vq = .slice (some ⟨gq, 0, none⟩) nq cq ∧ D.vv = .slice (some ⟨gv, 0, none⟩) nv cv) ∧ LaidE w' B D ∧ EntD.Fine D ∧ Laid w' B (.slice (some ⟨gb, 0, none⟩) nb cb) bs' ∧ (Bys bs' ∧ bs'.length ≤ 5000) ∧ w.grownBy w' o ∧ (o = none ∨ o = some gb ∨ o = some gr ∨ o = some gq ∨ o = some gv) := by
  have A1 : Below w.heap.size w (((w.alloc (.cells #[.slice (some ⟨gr, 0, none⟩) nr cr, .int .i64 fam, .slice (some ⟨gq, 0, none⟩) nq cq, .int .i64 ts, .int .i64 sq, .int .i64 b, .slice (some ⟨gv, 0, none⟩) nv cv] 30)).alloc (.cells #[.int .i64 6, .int .i64 a, .int .i64 b] 62)).alloc (.cells #[.slice (some ⟨gr, 0, none⟩) nr cr, .int .i64 fam, .slice (some ⟨gq, 0, none⟩) nq cq, .int .i64 ts, .int .i64 sq, .int .i64 b, .slice (some ⟨gv, 0, none⟩) nv cv] 30)) := (((Below.refl w.heap.size w).alloc (Nat.le_refl _) _).alloc (by simp) _).alloc (by simp; omega) _
  have bg : EBox (((w.alloc (.cells #[.slice (some ⟨gr, 0, none⟩) nr cr, .int .i64 fam, .slice (some ⟨gq, 0, none⟩) nq cq, .int .i64 ts, .int .i64 sq, .int .i64 b, .slice (some ⟨gv, 0, none⟩) nv cv] 30)).alloc (.cells #[.int .i64 6, .int .i64 a, .int .i64 b] 62)).alloc (.cells #[.slice (some ⟨gr, 0, none⟩) nr cr, .int .i64 fam, .slice (some ⟨gq, 0, none⟩) nq cq, .int .i64 ts, .int .i64 sq, .int .i64 b, .slice (some ⟨gv, 0, none⟩) nv cv] 30)) (w.heap.size + 1 + 1) ⟨.slice (some ⟨gr, 0, none⟩) nr cr, fam, .slice (some ⟨gq, 0, none⟩) nq cq, ts, sq, b, .slice (some ⟨gv, 0, none⟩) nv cv, row, qual, val⟩ := by
    have h := EBox.new ((w.alloc (.cells #[.slice (some ⟨gr, 0, none⟩) nr cr, .int .i64 fam, .slice (some ⟨gq, 0, none⟩) nq cq, .int .i64 ts, .int .i64 sq, .int .i64 b, .slice (some ⟨gv, 0, none⟩) nv cv] 30)).alloc (.cells #[.int .i64 6, .int .i64 a, .int .i64 b] 62)) ⟨.slice (some ⟨gr, 0, none⟩) nr cr, fam, .slice (some ⟨gq, 0, none⟩) nq cq, ts, sq, b, .slice (some ⟨gv, 0, none⟩) nv cv, row, qual, val⟩
    rw [World.size_alloc, World.size_alloc] at h
    exact h
  have HE := Lib.hid (And.intro A1 bg)
  have HL := Lib.hid (And.intro le (And.intro fe (And.intro lb hbs)))
  clear A1 bg le fe lb hbs ap
  go_enter Try.func30, Try.ntmps30
  go_wp2
  obtain ⟨A1, bg⟩ := HE.out
  clear HE
  generalize (((w.alloc (.cells #[.slice (some ⟨gr, 0, none⟩) nr cr, .int .i64 fam, .slice (some ⟨gq, 0, none⟩) nq cq, .int .i64 ts, .int .i64 sq, .int .i64 b, .slice (some ⟨gv, 0, none⟩) nv cv] 30)).alloc (.cells #[.int .i64 6, .int .i64 a, .int .i64 b] 62)).alloc (.cells #[.slice (some ⟨gr, 0, none⟩) nr cr, .int .i64 fam, .slice (some ⟨gq, 0, none⟩) nq cq, .int .i64 ts, .int .i64 sq, .int .i64 b, .slice (some ⟨gv, 0, none⟩) nv cv] 30)) = wz at A1 bg ⊢
  obtain ⟨t0, t1, t2, t3, t4, t5, t6⟩ := bg.cells7
  simp only at t0 t1 t2 t3 t4 t5 t6
  (try simp only [Exit.inBlock, Exit.then])
  refine bodyPost_ret (v := .agg #[.slice (some ⟨gr, 0, none⟩) nr cr, .int .i64 fam, .slice (some ⟨gq, 0, none⟩) nq cq, .int .i64 ts, .int .i64 sq, .int .i64 b, .slice (some ⟨gv, 0, none⟩) nv cv]) ?hres rfl ?_
  case hres => simp [results, Try.results30, go_sem, t0, t1, t2, t3, t4, t5, t6]
  have l2 := HL.out.1.later A1
  exact ⟨⟨.slice (some ⟨gr, 0, none⟩) nr cr, fam, .slice (some ⟨gq, 0, none⟩) nq cq, ts, sq, b, .slice (some ⟨gv, 0, none⟩) nv cv, row, qual, val⟩, bs, none, rfl, ⟨rfl, rfl, rfl⟩, ⟨l2.1, l2.2.1, l2.2.2⟩, HL.out.2.1, HL.out.2.2.1.later A1, HL.out.2.2.2, grown_below A1 none, .inl rfl⟩

set_option maxRecDepth 100000 in
set_option maxHeartbeats 8000000 in
theorem turned_row {gr nr cr gq nq cq gv nv cv gb nb cb B : Nat} {fam ts sq kd : Int} {row qual val bs : List Nat} {w : World} {a b : Int} (le : LaidE w B ⟨.slice (some ⟨gr, 0, none⟩) nr cr, fam, .slice (some ⟨gq, 0, none⟩) nq cq, ts, sq, kd, .slice (some ⟨gv, 0, none⟩) nv cv, row, qual, val⟩) (fe : EntD.Fine ⟨.slice (some ⟨gr, 0, none⟩) nr cr, fam, .slice (some ⟨gq, 0, none⟩) nq cq, ts, sq, kd, .slice (some ⟨gv, 0, none⟩) nv cv, row, qual, val⟩) (lb : Laid w B (.slice (some ⟨gb, 0, none⟩) nb cb) bs) (hbs : Bys bs ∧ bs.length ≤ 5000) (ap : (gr ≠ gq ∧ gr ≠ gv ∧ gq ≠ gv) ∧ (gb ≠ gr ∧ gb ≠ gq ∧ gb ≠ gv)) :
    Calls Try.prog 30 #[.agg #[.slice (some ⟨gr, 0, none⟩) nr cr, .int .i64 fam, .slice (some ⟨gq, 0, none⟩) nq cq, .int .i64 ts, .int .i64 sq, .int .i64 kd, .slice (some ⟨gv, 0, none⟩) nv cv], .slice (some ⟨gb, 0, none⟩) nb cb, .agg #[.int .i64 0, .int .i64 a, .int .i64 b]] w fun r w' => ∃ D bs' o, r = .returned (.agg D.cells) ∧ (D.vr = .slice (some ⟨gr, 0, none⟩) nr cr ∧ D.vq = .slice (some ⟨gq, 0, none⟩) nq cq ∧ D.vv = .slice (some ⟨gv, 0, none⟩) nv cv) ∧ LaidE w' B D ∧ EntD.Fine D ∧ Laid w' B (.slice (some ⟨gb, 0, none⟩) nb cb) bs' ∧ (Bys bs' ∧ bs'.length ≤ 5000) ∧ w.grownBy w' o ∧ (o = none ∨ o = some gb ∨ o = some gr ∨ o = some gq ∨ o = some gv) := by
  have A1 : Below w.heap.size w (((w.alloc (.cells #[.slice (some ⟨gr, 0, none⟩) nr cr, .int .i64 fam, .slice (some ⟨gq, 0, none⟩) nq cq, .int .i64 ts, .int .i64 sq, .int .i64 kd, .slice (some ⟨gv, 0, none⟩) nv cv] 30)).alloc (.cells #[.int .i64 0, .int .i64 a, .int .i64 b] 62)).alloc (.cells #[.slice none 0 0, .int .i64 0, .slice none 0 0, .int .i64 0, .int .i64 0, .int .i64 0, .slice none 0 0] 30)) := (((Below.refl w.heap.size w).alloc (Nat.le_refl _) _).alloc (by simp) _).alloc (by simp; omega) _
  have be : EBox (((w.alloc (.cells #[.slice (some ⟨gr, 0, none⟩) nr cr, .int .i64 fam, .slice (some ⟨gq, 0, none⟩) nq cq, .int .i64 ts, .int .i64 sq, .int .i64 kd, .slice (some ⟨gv, 0, none⟩) nv cv] 30)).alloc (.cells #[.int .i64 0, .int .i64 a, .int .i64 b] 62)).alloc (.cells #[.slice none 0 0, .int .i64 0, .slice none 0 0, .int .i64 0, .int .i64 0, .int .i64 0, .slice none 0 0] 30)) w.heap.size ⟨.slice (some ⟨gr, 0, none⟩) nr cr, fam, .slice (some ⟨gq, 0, none⟩) nq cq, ts, sq, kd, .slice (some ⟨gv, 0, none⟩) nv cv, row, qual, val⟩ := ((EBox.new w ⟨.slice (some ⟨gr, 0, none⟩) nr cr, fam, .slice (some ⟨gq, 0, none⟩) nq cq, ts, sq, kd, .slice (some ⟨gv, 0, none⟩) nv cv, row, qual, val⟩).later ((Below.refl _ _).alloc (Nat.le_refl _) _)).later ((Below.refl _ _).alloc (Nat.le_refl _) _)
  have bg : EBox (((w.alloc (.cells #[.slice (some ⟨gr, 0, none⟩) nr cr, .int .i64 fam, .slice (some ⟨gq, 0, none⟩) nq cq, .int .i64 ts, .int .i64 sq, .int .i64 kd, .slice (some ⟨gv, 0, none⟩) nv cv] 30)).alloc (.cells #[.int .i64 0, .int .i64 a, .int .i64 b] 62)).alloc (.cells #[.slice none 0 0, .int .i64 0, .slice none 0 0, .int .i64 0, .int .i64 0, .int .i64 0, .slice none 0 0] 30)) (w.heap.size + 1 + 1) ⟨.slice none 0 0, 0, .slice none 0 0, 0, 0, 0, .slice none 0 0, [], [], []⟩ := by
    have h := EBox.new ((w.alloc (.cells #[.slice (some ⟨gr, 0, none⟩) nr cr, .int .i64 fam, .slice (some ⟨gq, 0, none⟩) nq cq, .int .i64 ts, .int .i64 sq, .int .i64 kd, .slice (some ⟨gv, 0, none⟩) nv cv] 30)).alloc (.cells #[.int .i64 0, .int .i64 a, .int .i64 b] 62)) ⟨.slice none 0 0, 0, .slice none 0 0, 0, 0, 0, .slice none 0 0, [], [], []⟩
    rw [World.size_alloc, World.size_alloc] at h
    exact h
  have HE := Lib.hid (And.intro A1 (And.intro be bg))
  have HL := Lib.hid (And.intro le (And.intro fe (And.intro lb hbs)))
  have HA := Lib.hid ap
  clear A1 be bg le fe lb hbs ap
  go_enter Try.func30, Try.ntmps30
  go_wp2_with fail
  refine (put_any (HL.out.1.1.later HE.out.1) HL.out.2.1.1.2 HL.out.2.1.1.1).mono ?_
  rintro r0 w1 ⟨rfl, xs, hxl, hx1, lx, gr1⟩
  obtain ⟨A1, be, bg⟩ := HE.out
  have hs1 : w.heap.size + 1 + 1 + 1 ≤ w1.heap.size := by have := gr1.size; simpa using this
  have oX : Value.ownBlock (.slice (some ⟨gr, 0, none⟩) nr cr) = some gr := rfl
  have lxo : ∀ z, gr = z → EBox (((w.alloc (.cells #[.slice (some ⟨gr, 0, none⟩) nr cr, .int .i64 fam, .slice (some ⟨gq, 0, none⟩) nq cq, .int .i64 ts, .int .i64 sq, .int .i64 kd, .slice (some ⟨gv, 0, none⟩) nv cv] 30)).alloc (.cells #[.int .i64 0, .int .i64 a, .int .i64 b] 62)).alloc (.cells #[.slice none 0 0, .int .i64 0, .slice none 0 0, .int .i64 0, .int .i64 0, .int .i64 0, .slice none 0 0] 30)) z ⟨.slice (some ⟨gr, 0, none⟩) nr cr, fam, .slice (some ⟨gq, 0, none⟩) nq cq, ts, sq, kd, .slice (some ⟨gv, 0, none⟩) nv cv, row, qual, val⟩ → False := fun z hz h => by
    subst hz
    exact laid_ebox (HL.out.1.1.later A1) h
  have lxg : ∀ z, gr = z → EBox (((w.alloc (.cells #[.slice (some ⟨gr, 0, none⟩) nr cr, .int .i64 fam, .slice (some ⟨gq, 0, none⟩) nq cq, .int .i64 ts, .int .i64 sq, .int .i64 kd, .slice (some ⟨gv, 0, none⟩) nv cv] 30)).alloc (.cells #[.int .i64 0, .int .i64 a, .int .i64 b] 62)).alloc (.cells #[.slice none 0 0, .int .i64 0, .slice none 0 0, .int .i64 0, .int .i64 0, .int .i64 0, .slice none 0 0] 30)) z ⟨.slice none 0 0, 0, .slice none 0 0, 0, 0, 0, .slice none 0 0, [], [], []⟩ → False := fun z hz h => by
    subst hz
    exact laid_ebox (HL.out.1.1.later A1) h
  have BE1 := be.far gr1 (fun z hz e => by cases hz; exact lxo _ e.symm be)
  have BG1 := bg.far gr1 (fun z hz e => by cases hz; exact lxg _ e.symm bg)
  have hfx : row.length ≤ 5000 := HL.out.2.1.1.2
  have hxs : xs.length ≤ 5000 := Nat.le_trans (Nat.le_of_eq hxl) hfx
  have LR := lx.fillo2 (D := ⟨.slice (some ⟨gr, 0, none⟩) nr cr, fam, .slice (some ⟨gq, 0, none⟩) nq cq, ts, sq, kd, .slice (some ⟨gv, 0, none⟩) nv cv, xs, qual, val⟩) BG1
  have LQ := ((HL.out.1.2.1.later A1).far gr1 (fun g hg h => by cases hg; simp [Value.ownBlock] at h; exact HA.out.1.1 h.symm)).fillo2 (D := ⟨.slice (some ⟨gr, 0, none⟩) nr cr, fam, .slice (some ⟨gq, 0, none⟩) nq cq, ts, sq, kd, .slice (some ⟨gv, 0, none⟩) nv cv, xs, qual, val⟩) BG1
  have LV := ((HL.out.1.2.2.later A1).far gr1 (fun g hg h => by cases hg; simp [Value.ownBlock] at h; exact HA.out.1.2.1 h.symm)).fillo2 (D := ⟨.slice (some ⟨gr, 0, none⟩) nr cr, fam, .slice (some ⟨gq, 0, none⟩) nq cq, ts, sq, kd, .slice (some ⟨gv, 0, none⟩) nv cv, xs, qual, val⟩) BG1
  have LB := ((HL.out.2.2.1.later A1).far gr1 (fun g hg h => by cases hg; simp [Value.ownBlock] at h; exact (Ne.symm HA.out.2.1) h.symm)).fillo2 (D := ⟨.slice (some ⟨gr, 0, none⟩) nr cr, fam, .slice (some ⟨gq, 0, none⟩) nq cq, ts, sq, kd, .slice (some ⟨gv, 0, none⟩) nv cv, xs, qual, val⟩) BG1
  have GG : w.grownBy (filled w1 (w.heap.size + 1 + 1) ⟨.slice (some ⟨gr, 0, none⟩) nr cr, fam, .slice (some ⟨gq, 0, none⟩) nq cq, ts, sq, kd, .slice (some ⟨gv, 0, none⟩) nv cv, xs, qual, val⟩) (some gr) := grown_trans (grown_trans (grown_below A1 _) gr1 (.inl rfl)) (filled_grown w1 (w.heap.size + 1 + 1) ⟨.slice (some ⟨gr, 0, none⟩) nr cr, fam, .slice (some ⟨gq, 0, none⟩) nq cq, ts, sq, kd, .slice (some ⟨gv, 0, none⟩) nv cv, xs, qual, val⟩) (.inr (fun g hg => by cases hg; omega))
  have fb := filled_box BG1 ⟨.slice (some ⟨gr, 0, none⟩) nr cr, fam, .slice (some ⟨gq, 0, none⟩) nq cq, ts, sq, kd, .slice (some ⟨gv, 0, none⟩) nv cv, xs, qual, val⟩
  obtain ⟨g0, g1, g2, g3, g4, g5, g6⟩ := BG1.cells7
  obtain ⟨gf0, gf1, gf2, gf3, gf4, gf5, gf6⟩ := BG1.fz7
  obtain ⟨m0, m1, m2, m3, m4, m5, m6⟩ := BE1.cells7
  simp only at g0 g1 g2 g3 g4 g5 g6 m0 m1 m2 m3 m4 m5 m6
  have HDN := Lib.hid (And.intro fb (And.intro LR (And.intro LQ (And.intro LV (And.intro LB GG)))))
  clear LR LQ LV LB GG fb BE1 BG1 A1 be bg HE lxo lxg
  simp only [filled] at HDN
  go_wp2
  obtain ⟨fb, LR, LQ, LV, LB, GG⟩ := HDN.out
  clear HDN
  generalize ((((((((w1).setCell ⟨w.heap.size + 1 + 1, 0, none⟩ (.slice (some ⟨gr, 0, none⟩) nr cr)).setCell ⟨w.heap.size + 1 + 1, 1, none⟩ (.int .i64 fam)).setCell ⟨w.heap.size + 1 + 1, 2, none⟩ (.slice (some ⟨gq, 0, none⟩) nq cq)).setCell ⟨w.heap.size + 1 + 1, 3, none⟩ (.int .i64 ts)).setCell ⟨w.heap.size + 1 + 1, 4, none⟩ (.int .i64 sq)).setCell ⟨w.heap.size + 1 + 1, 5, none⟩ (.int .i64 kd)).setCell ⟨w.heap.size + 1 + 1, 6, none⟩ (.slice (some ⟨gv, 0, none⟩) nv cv)) = wz at fb LR LQ LV LB GG ⊢
  obtain ⟨t0, t1, t2, t3, t4, t5, t6⟩ := fb.cells7
  simp only at t0 t1 t2 t3 t4 t5 t6
  (try simp only [Exit.inBlock, Exit.then])
  refine bodyPost_ret (v := .agg #[.slice (some ⟨gr, 0, none⟩) nr cr, .int .i64 fam, .slice (some ⟨gq, 0, none⟩) nq cq, .int .i64 ts, .int .i64 sq, .int .i64 kd, .slice (some ⟨gv, 0, none⟩) nv cv]) ?hres rfl ?_
  case hres => simp [results, Try.results30, go_sem, t0, t1, t2, t3, t4, t5, t6]
  exact ⟨⟨.slice (some ⟨gr, 0, none⟩) nr cr, fam, .slice (some ⟨gq, 0, none⟩) nq cq, ts, sq, kd, .slice (some ⟨gv, 0, none⟩) nv cv, xs, qual, val⟩, bs, some gr, rfl, ⟨rfl, rfl, rfl⟩, ⟨LR, LQ, LV⟩, ⟨⟨hx1, hxs⟩, HL.out.2.1.2.1, HL.out.2.1.2.2⟩, LB, HL.out.2.2.2, GG, .inr (.inr (.inl rfl))⟩

set_option maxRecDepth 100000 in
set_option maxHeartbeats 8000000 in
theorem turned_qual {gr nr cr gq nq cq gv nv cv gb nb cb B : Nat} {fam ts sq kd : Int} {row qual val bs : List Nat} {w : World} {a b : Int} (le : LaidE w B ⟨.slice (some ⟨gr, 0, none⟩) nr cr, fam, .slice (some ⟨gq, 0, none⟩) nq cq, ts, sq, kd, .slice (some ⟨gv, 0, none⟩) nv cv, row, qual, val⟩) (fe : EntD.Fine ⟨.slice (some ⟨gr, 0, none⟩) nr cr, fam, .slice (some ⟨gq, 0, none⟩) nq cq, ts, sq, kd, .slice (some ⟨gv, 0, none⟩) nv cv, row, qual, val⟩) (lb : Laid w B (.slice (some ⟨gb, 0, none⟩) nb cb) bs) (hbs : Bys bs ∧ bs.length ≤ 5000) (ap : (gr ≠ gq ∧ gr ≠ gv ∧ gq ≠ gv) ∧ (gb ≠ gr ∧ gb ≠ gq ∧ gb ≠ gv)) :
    Calls Try.prog 30 #[.agg #[.slice (some ⟨gr, 0, none⟩) nr cr, .int .i64 fam, .slice (some ⟨gq, 0, none⟩) nq cq, .int .i64 ts, .int .i64 sq, .int .i64 kd, .slice (some ⟨gv, 0, none⟩) nv cv], .slice (some ⟨gb, 0, none⟩) nb cb, .agg #[.int .i64 1, .int .i64 a, .int .i64 b]] w fun r w' => ∃ D bs' o, r = .returned (.agg D.cells) ∧ (D.vr = .slice (some ⟨gr, 0, none⟩) nr cr ∧ D.vq = .slice (some ⟨gq, 0, none⟩) nq cq ∧ D.vv = .slice (some ⟨gv, 0, none⟩) nv cv) ∧ LaidE w' B D ∧ EntD.Fine D ∧ Laid w' B (.slice (some ⟨gb, 0, none⟩) nb cb) bs' ∧ (Bys bs' ∧ bs'.length ≤ 5000) ∧ w.grownBy w' o ∧ (o = none ∨ o = some gb ∨ o = some gr ∨ o = some gq ∨ o = some gv) := by
  have A1 : Below w.heap.size w (((w.alloc (.cells #[.slice (some ⟨gr, 0, none⟩) nr cr, .int .i64 fam, .slice (some ⟨gq, 0, none⟩) nq cq, .int .i64 ts, .int .i64 sq, .int .i64 kd, .slice (some ⟨gv, 0, none⟩) nv cv] 30)).alloc (.cells #[.int .i64 1, .int .i64 a, .int .i64 b] 62)).alloc (.cells #[.slice none 0 0, .int .i64 0, .slice none 0 0, .int .i64 0, .int .i64 0, .int .i64 0, .slice none 0 0] 30)) := (((Below.refl w.heap.size w).alloc (Nat.le_refl _) _).alloc (by simp) _).alloc (by simp; omega) _
  have be : EBox (((w.alloc (.cells #[.slice (some ⟨gr, 0, none⟩) nr cr, .int .i64 fam, .slice (some ⟨gq, 0, none⟩) nq cq, .int .i64 ts, .int .i64 sq, .int .i64 kd, .slice (some ⟨gv, 0, none⟩) nv cv] 30)).alloc (.cells #[.int .i64 1, .int .i64 a, .int .i64 b] 62)).alloc (.cells #[.slice none 0 0, .int .i64 0, .slice none 0 0, .int .i64 0, .int .i64 0, .int .i64 0, .slice none 0 0] 30)) w.heap.size ⟨.slice (some ⟨gr, 0, none⟩) nr cr, fam, .slice (some ⟨gq, 0, none⟩) nq cq, ts, sq, kd, .slice (some ⟨gv, 0, none⟩) nv cv, row, qual, val⟩ := ((EBox.new w ⟨.slice (some ⟨gr, 0, none⟩) nr cr, fam, .slice (some ⟨gq, 0, none⟩) nq cq, ts, sq, kd, .slice (some ⟨gv, 0, none⟩) nv cv, row, qual, val⟩).later ((Below.refl _ _).alloc (Nat.le_refl _) _)).later ((Below.refl _ _).alloc (Nat.le_refl _) _)
  have bg : EBox (((w.alloc (.cells #[.slice (some ⟨gr, 0, none⟩) nr cr, .int .i64 fam, .slice (some ⟨gq, 0, none⟩) nq cq, .int .i64 ts, .int .i64 sq, .int .i64 kd, .slice (some ⟨gv, 0, none⟩) nv cv] 30)).alloc (.cells #[.int .i64 1, .int .i64 a, .int .i64 b] 62)).alloc (.cells #[.slice none 0 0, .int .i64 0, .slice none 0 0, .int .i64 0, .int .i64 0, .int .i64 0, .slice none 0 0] 30)) (w.heap.size + 1 + 1) ⟨.slice none 0 0, 0, .slice none 0 0, 0, 0, 0, .slice none 0 0, [], [], []⟩ := by
    have h := EBox.new ((w.alloc (.cells #[.slice (some ⟨gr, 0, none⟩) nr cr, .int .i64 fam, .slice (some ⟨gq, 0, none⟩) nq cq, .int .i64 ts, .int .i64 sq, .int .i64 kd, .slice (some ⟨gv, 0, none⟩) nv cv] 30)).alloc (.cells #[.int .i64 1, .int .i64 a, .int .i64 b] 62)) ⟨.slice none 0 0, 0, .slice none 0 0, 0, 0, 0, .slice none 0 0, [], [], []⟩
    rw [World.size_alloc, World.size_alloc] at h
    exact h
  have HE := Lib.hid (And.intro A1 (And.intro be bg))
  have HL := Lib.hid (And.intro le (And.intro fe (And.intro lb hbs)))
  have HA := Lib.hid ap
  clear A1 be bg le fe lb hbs ap
  go_enter Try.func30, Try.ntmps30
  go_wp2_with fail
  refine (put_any (HL.out.1.2.1.later HE.out.1) HL.out.2.1.2.1.2 HL.out.2.1.2.1.1).mono ?_
  rintro r0 w1 ⟨rfl, xs, hxl, hx1, lx, gr1⟩
  obtain ⟨A1, be, bg⟩ := HE.out
  have hs1 : w.heap.size + 1 + 1 + 1 ≤ w1.heap.size := by have := gr1.size; simpa using this
  have oX : Value.ownBlock (.slice (some ⟨gq, 0, none⟩) nq cq) = some gq := rfl
  have lxo : ∀ z, gq = z → EBox (((w.alloc (.cells #[.slice (some ⟨gr, 0, none⟩) nr cr, .int .i64 fam, .slice (some ⟨gq, 0, none⟩) nq cq, .int .i64 ts, .int .i64 sq, .int .i64 kd, .slice (some ⟨gv, 0, none⟩) nv cv] 30)).alloc (.cells #[.int .i64 1, .int .i64 a, .int .i64 b] 62)).alloc (.cells #[.slice none 0 0, .int .i64 0, .slice none 0 0, .int .i64 0, .int .i64 0, .int .i64 0, .slice none 0 0] 30)) z ⟨.slice (some ⟨gr, 0, none⟩) nr cr, fam, .slice (some ⟨gq, 0, none⟩) nq cq, ts, sq, kd, .slice (some ⟨gv, 0, none⟩) nv cv, row, qual, val⟩ → False := fun z hz h => by
    subst hz
    exact laid_ebox (HL.out.1.2.1.later A1) h
  have lxg : ∀ z, gq = z → EBox (((w.alloc (.cells #[.slice (some ⟨gr, 0, none⟩) nr cr, .int .i64 fam, .slice (some ⟨gq, 0, none⟩) nq cq, .int .i64 ts, .int .i64 sq, .int .i64 kd, .slice (some ⟨gv, 0, none⟩) nv cv] 30)).alloc (.cells #[.int .i64 1, .int .i64 a, .int .i64 b] 62)).alloc (.cells #[.slice none 0 0, .int .i64 0, .slice none 0 0, .int .i64 0, .int .i64 0, .int .i64 0, .slice none 0 0] 30)) z ⟨.slice none 0 0, 0, .slice none 0 0, 0, 0, 0, .slice none 0 0, [], [], []⟩ → False := fun z hz h => by
    subst hz
    exact laid_ebox (HL.out.1.2.1.later A1) h
  have BE1 := be.far gr1 (fun z hz e => by cases hz; exact lxo _ e.symm be)
  have BG1 := bg.far gr1 (fun z hz e => by cases hz; exact lxg _ e.symm bg)
  have hfx : qual.length ≤ 5000 := HL.out.2.1.2.1.2
  have hxs : xs.length ≤ 5000 := Nat.le_trans (Nat.le_of_eq hxl) hfx
  have LR := ((HL.out.1.1.later A1).far gr1 (fun g hg h => by cases hg; simp [Value.ownBlock] at h; exact (Ne.symm HA.out.1.1) h.symm)).fillo2 (D := ⟨.slice (some ⟨gr, 0, none⟩) nr cr, fam, .slice (some ⟨gq, 0, none⟩) nq cq, ts, sq, kd, .slice (some ⟨gv, 0, none⟩) nv cv, row, xs, val⟩) BG1
  have LQ := lx.fillo2 (D := ⟨.slice (some ⟨gr, 0, none⟩) nr cr, fam, .slice (some ⟨gq, 0, none⟩) nq cq, ts, sq, kd, .slice (some ⟨gv, 0, none⟩) nv cv, row, xs, val⟩) BG1
  have LV := ((HL.out.1.2.2.later A1).far gr1 (fun g hg h => by cases hg; simp [Value.ownBlock] at h; exact HA.out.1.2.2 h.symm)).fillo2 (D := ⟨.slice (some ⟨gr, 0, none⟩) nr cr, fam, .slice (some ⟨gq, 0, none⟩) nq cq, ts, sq, kd, .slice (some ⟨gv, 0, none⟩) nv cv, row, xs, val⟩) BG1
  have LB := ((HL.out.2.2.1.later A1).far gr1 (fun g hg h => by cases hg; simp [Value.ownBlock] at h; exact (Ne.symm HA.out.2.2.1) h.symm)).fillo2 (D := ⟨.slice (some ⟨gr, 0, none⟩) nr cr, fam, .slice (some ⟨gq, 0, none⟩) nq cq, ts, sq, kd, .slice (some ⟨gv, 0, none⟩) nv cv, row, xs, val⟩) BG1
  have GG : w.grownBy (filled w1 (w.heap.size + 1 + 1) ⟨.slice (some ⟨gr, 0, none⟩) nr cr, fam, .slice (some ⟨gq, 0, none⟩) nq cq, ts, sq, kd, .slice (some ⟨gv, 0, none⟩) nv cv, row, xs, val⟩) (some gq) := grown_trans (grown_trans (grown_below A1 _) gr1 (.inl rfl)) (filled_grown w1 (w.heap.size + 1 + 1) ⟨.slice (some ⟨gr, 0, none⟩) nr cr, fam, .slice (some ⟨gq, 0, none⟩) nq cq, ts, sq, kd, .slice (some ⟨gv, 0, none⟩) nv cv, row, xs, val⟩) (.inr (fun g hg => by cases hg; omega))
  have fb := filled_box BG1 ⟨.slice (some ⟨gr, 0, none⟩) nr cr, fam, .slice (some ⟨gq, 0, none⟩) nq cq, ts, sq, kd, .slice (some ⟨gv, 0, none⟩) nv cv, row, xs, val⟩
  obtain ⟨g0, g1, g2, g3, g4, g5, g6⟩ := BG1.cells7
  obtain ⟨gf0, gf1, gf2, gf3, gf4, gf5, gf6⟩ := BG1.fz7
  obtain ⟨m0, m1, m2, m3, m4, m5, m6⟩ := BE1.cells7
  simp only at g0 g1 g2 g3 g4 g5 g6 m0 m1 m2 m3 m4 m5 m6
  have HDN := Lib.hid (And.intro fb (And.intro LR (And.intro LQ (And.intro LV (And.intro LB GG)))))
  clear LR LQ LV LB GG fb BE1 BG1 A1 be bg HE lxo lxg
  simp only [filled] at HDN
  go_wp2
  obtain ⟨fb, LR, LQ, LV, LB, GG⟩ := HDN.out
  clear HDN
  generalize ((((((((w1).setCell ⟨w.heap.size + 1 + 1, 0, none⟩ (.slice (some ⟨gr, 0, none⟩) nr cr)).setCell ⟨w.heap.size + 1 + 1, 1, none⟩ (.int .i64 fam)).setCell ⟨w.heap.size + 1 + 1, 2, none⟩ (.slice (some ⟨gq, 0, none⟩) nq cq)).setCell ⟨w.heap.size + 1 + 1, 3, none⟩ (.int .i64 ts)).setCell ⟨w.heap.size + 1 + 1, 4, none⟩ (.int .i64 sq)).setCell ⟨w.heap.size + 1 + 1, 5, none⟩ (.int .i64 kd)).setCell ⟨w.heap.size + 1 + 1, 6, none⟩ (.slice (some ⟨gv, 0, none⟩) nv cv)) = wz at fb LR LQ LV LB GG ⊢
  obtain ⟨t0, t1, t2, t3, t4, t5, t6⟩ := fb.cells7
  simp only at t0 t1 t2 t3 t4 t5 t6
  (try simp only [Exit.inBlock, Exit.then])
  refine bodyPost_ret (v := .agg #[.slice (some ⟨gr, 0, none⟩) nr cr, .int .i64 fam, .slice (some ⟨gq, 0, none⟩) nq cq, .int .i64 ts, .int .i64 sq, .int .i64 kd, .slice (some ⟨gv, 0, none⟩) nv cv]) ?hres rfl ?_
  case hres => simp [results, Try.results30, go_sem, t0, t1, t2, t3, t4, t5, t6]
  exact ⟨⟨.slice (some ⟨gr, 0, none⟩) nr cr, fam, .slice (some ⟨gq, 0, none⟩) nq cq, ts, sq, kd, .slice (some ⟨gv, 0, none⟩) nv cv, row, xs, val⟩, bs, some gq, rfl, ⟨rfl, rfl, rfl⟩, ⟨LR, LQ, LV⟩, ⟨HL.out.2.1.1, ⟨hx1, hxs⟩, HL.out.2.1.2.2⟩, LB, HL.out.2.2.2, GG, .inr (.inr (.inr (.inl rfl)))⟩

set_option maxRecDepth 100000 in
set_option maxHeartbeats 8000000 in
theorem turned_val {gr nr cr gq nq cq gv nv cv gb nb cb B : Nat} {fam ts sq kd : Int} {row qual val bs : List Nat} {w : World} {a b : Int} (le : LaidE w B ⟨.slice (some ⟨gr, 0, none⟩) nr cr, fam, .slice (some ⟨gq, 0, none⟩) nq cq, ts, sq, kd, .slice (some ⟨gv, 0, none⟩) nv cv, row, qual, val⟩) (fe : EntD.Fine ⟨.slice (some ⟨gr, 0, none⟩) nr cr, fam, .slice (some ⟨gq, 0, none⟩) nq cq, ts, sq, kd, .slice (some ⟨gv, 0, none⟩) nv cv, row, qual, val⟩) (lb : Laid w B (.slice (some ⟨gb, 0, none⟩) nb cb) bs) (hbs : Bys bs ∧ bs.length ≤ 5000) (ap : (gr ≠ gq ∧ gr ≠ gv ∧ gq ≠ gv) ∧ (gb ≠ gr ∧ gb ≠ gq ∧ gb ≠ gv)) :
    Calls Try.prog 30 #[.agg #[.slice (some ⟨gr, 0, none⟩) nr cr, .int .i64 fam, .slice (some ⟨gq, 0, none⟩) nq cq, .int .i64 ts, .int .i64 sq, .int .i64 kd, .slice (some ⟨gv, 0, none⟩) nv cv], .slice (some ⟨gb, 0, none⟩) nb cb, .agg #[.int .i64 2, .int .i64 a, .int .i64 b]] w fun r w' => ∃ D bs' o, r = .returned (.agg D.cells) ∧ (D.vr = .slice (some ⟨gr, 0, none⟩) nr cr ∧ D.vq = .slice (some ⟨gq, 0, none⟩) nq cq ∧ D.vv = .slice (some ⟨gv, 0, none⟩) nv cv) ∧ LaidE w' B D ∧ EntD.Fine D ∧ Laid w' B (.slice (some ⟨gb, 0, none⟩) nb cb) bs' ∧ (Bys bs' ∧ bs'.length ≤ 5000) ∧ w.grownBy w' o ∧ (o = none ∨ o = some gb ∨ o = some gr ∨ o = some gq ∨ o = some gv) := by
  have A1 : Below w.heap.size w (((w.alloc (.cells #[.slice (some ⟨gr, 0, none⟩) nr cr, .int .i64 fam, .slice (some ⟨gq, 0, none⟩) nq cq, .int .i64 ts, .int .i64 sq, .int .i64 kd, .slice (some ⟨gv, 0, none⟩) nv cv] 30)).alloc (.cells #[.int .i64 2, .int .i64 a, .int .i64 b] 62)).alloc (.cells #[.slice none 0 0, .int .i64 0, .slice none 0 0, .int .i64 0, .int .i64 0, .int .i64 0, .slice none 0 0] 30)) := (((Below.refl w.heap.size w).alloc (Nat.le_refl _) _).alloc (by simp) _).alloc (by simp; omega) _
  have be : EBox (((w.alloc (.cells #[.slice (some ⟨gr, 0, none⟩) nr cr, .int .i64 fam, .slice (some ⟨gq, 0, none⟩) nq cq, .int .i64 ts, .int .i64 sq, .int .i64 kd, .slice (some ⟨gv, 0, none⟩) nv cv] 30)).alloc (.cells #[.int .i64 2, .int .i64 a, .int .i64 b] 62)).alloc (.cells #[.slice none 0 0, .int .i64 0, .slice none 0 0, .int .i64 0, .int .i64 0, .int .i64 0, .slice none 0 0] 30)) w.heap.size ⟨.slice (some ⟨gr, 0, none⟩) nr cr, fam, .slice (some ⟨gq, 0, none⟩) nq cq, ts, sq, kd, .slice (some ⟨gv, 0, none⟩) nv cv, row, qual, val⟩ := ((EBox.new w ⟨.slice (some ⟨gr, 0, none⟩) nr cr, fam, .slice (some ⟨gq, 0, none⟩) nq cq, ts, sq, kd, .slice (some ⟨gv, 0, none⟩) nv cv, row, qual, val⟩).later ((Below.refl _ _).alloc (Nat.le_refl _) _)).later ((Below.refl _ _).alloc (Nat.le_refl _) _)
  have bg : EBox (((w.alloc (.cells #[.slice (some ⟨gr, 0, none⟩) nr cr, .int .i64 fam, .slice (some ⟨gq, 0, none⟩) nq cq, .int .i64 ts, .int .i64 sq, .int .i64 kd, .slice (some ⟨gv, 0, none⟩) nv cv] 30)).alloc (.cells #[.int .i64 2, .int .i64 a, .int .i64 b] 62)).alloc (.cells #[.slice none 0 0, .int .i64 0, .slice none 0 0, .int .i64 0, .int .i64 0, .int .i64 0, .slice none 0 0] 30)) (w.heap.size + 1 + 1) ⟨.slice none 0 0, 0, .slice none 0 0, 0, 0, 0, .slice none 0 0, [], [], []⟩ := by
    have h := EBox.new ((w.alloc (.cells #[.slice (some ⟨gr, 0, none⟩) nr cr, .int .i64 fam, .slice (some ⟨gq, 0, none⟩) nq cq, .int .i64 ts, .int .i64 sq, .int .i64 kd, .slice (some ⟨gv, 0, none⟩) nv cv] 30)).alloc (.cells #[.int .i64 2, .int .i64 a, .int .i64 b] 62)) ⟨.slice none 0 0, 0, .slice none 0 0, 0, 0, 0, .slice none 0 0, [], [], []⟩
    rw [World.size_alloc, World.size_alloc] at h
    exact h
  have HE := Lib.hid (And.intro A1 (And.intro be bg))
  have HL := Lib.hid (And.intro le (And.intro fe (And.intro lb hbs)))
  have HA := Lib.hid ap
  clear A1 be bg le fe lb hbs ap
  go_enter Try.func30, Try.ntmps30
  go_wp2_with fail
  refine (put_any (HL.out.1.2.2.later HE.out.1) HL.out.2.1.2.2.2 HL.out.2.1.2.2.1).mono ?_
  rintro r0 w1 ⟨rfl, xs, hxl, hx1, lx, gr1⟩
  obtain ⟨A1, be, bg⟩ := HE.out
  have hs1 : w.heap.size + 1 + 1 + 1 ≤ w1.heap.size := by have := gr1.size; simpa using this
  have oX : Value.ownBlock (.slice (some ⟨gv, 0, none⟩) nv cv) = some gv := rfl
  have lxo : ∀ z, gv = z → EBox (((w.alloc (.cells #[.slice (some ⟨gr, 0, none⟩) nr cr, .int .i64 fam, .slice (some ⟨gq, 0, none⟩) nq cq, .int .i64 ts, .int .i64 sq, .int .i64 kd, .slice (some ⟨gv, 0, none⟩) nv cv] 30)).alloc (.cells #[.int .i64 2, .int .i64 a, .int .i64 b] 62)).alloc (.cells #[.slice none 0 0, .int .i64 0, .slice none 0 0, .int .i64 0, .int .i64 0, .int .i64 0, .slice none 0 0] 30)) z ⟨.slice (some ⟨gr, 0, none⟩) nr cr, fam, .slice (some ⟨gq, 0, none⟩) nq cq, ts, sq, kd, .slice (some ⟨gv, 0, none⟩) nv cv, row, qual, val⟩ → False := fun z hz h => by
    subst hz
    exact laid_ebox (HL.out.1.2.2.later A1) h
  have lxg : ∀ z, gv = z → EBox (((w.alloc (.cells #[.slice (some ⟨gr, 0, none⟩) nr cr, .int .i64 fam, .slice (some ⟨gq, 0, none⟩) nq cq, .int .i64 ts, .int .i64 sq, .int .i64 kd, .slice (some ⟨gv, 0, none⟩) nv cv] 30)).alloc (.cells #[.int .i64 2, .int .i64 a, .int .i64 b] 62)).alloc (.cells #[.slice none 0 0, .int .i64 0, .slice none 0 0, .int .i64 0, .int .i64 0, .int .i64 0, .slice none 0 0] 30)) z ⟨.slice none 0 0, 0, .slice none 0 0, 0, 0, 0, .slice none 0 0, [], [], []⟩ → False := fun z hz h => by
    subst hz
    exact laid_ebox (HL.out.1.2.2.later A1) h
  have BE1 := be.far gr1 (fun z hz e => by cases hz; exact lxo _ e.symm be)
  have BG1 := bg.far gr1 (fun z hz e => by cases hz; exact lxg _ e.symm bg)
  have hfx : val.length ≤ 5000 := HL.out.2.1.2.2.2
  have hxs : xs.length ≤ 5000 := Nat.le_trans (Nat.le_of_eq hxl) hfx
  have LR := ((HL.out.1.1.later A1).far gr1 (fun g hg h => by cases hg; simp [Value.ownBlock] at h; exact (Ne.symm HA.out.1.2.1) h.symm)).fillo2 (D := ⟨.slice (some ⟨gr, 0, none⟩) nr cr, fam, .slice (some ⟨gq, 0, none⟩) nq cq, ts, sq, kd, .slice (some ⟨gv, 0, none⟩) nv cv, row, qual, xs⟩) BG1
  have LQ := ((HL.out.1.2.1.later A1).far gr1 (fun g hg h => by cases hg; simp [Value.ownBlock] at h; exact (Ne.symm HA.out.1.2.2) h.symm)).fillo2 (D := ⟨.slice (some ⟨gr, 0, none⟩) nr cr, fam, .slice (some ⟨gq, 0, none⟩) nq cq, ts, sq, kd, .slice (some ⟨gv, 0, none⟩) nv cv, row, qual, xs⟩) BG1
  have LV := lx.fillo2 (D := ⟨.slice (some ⟨gr, 0, none⟩) nr cr, fam, .slice (some ⟨gq, 0, none⟩) nq cq, ts, sq, kd, .slice (some ⟨gv, 0, none⟩) nv cv, row, qual, xs⟩) BG1
  have LB := ((HL.out.2.2.1.later A1).far gr1 (fun g hg h => by cases hg; simp [Value.ownBlock] at h; exact (Ne.symm HA.out.2.2.2) h.symm)).fillo2 (D := ⟨.slice (some ⟨gr, 0, none⟩) nr cr, fam, .slice (some ⟨gq, 0, none⟩) nq cq, ts, sq, kd, .slice (some ⟨gv, 0, none⟩) nv cv, row, qual, xs⟩) BG1
  have GG : w.grownBy (filled w1 (w.heap.size + 1 + 1) ⟨.slice (some ⟨gr, 0, none⟩) nr cr, fam, .slice (some ⟨gq, 0, none⟩) nq cq, ts, sq, kd, .slice (some ⟨gv, 0, none⟩) nv cv, row, qual, xs⟩) (some gv) := grown_trans (grown_trans (grown_below A1 _) gr1 (.inl rfl)) (filled_grown w1 (w.heap.size + 1 + 1) ⟨.slice (some ⟨gr, 0, none⟩) nr cr, fam, .slice (some ⟨gq, 0, none⟩) nq cq, ts, sq, kd, .slice (some ⟨gv, 0, none⟩) nv cv, row, qual, xs⟩) (.inr (fun g hg => by cases hg; omega))
  have fb := filled_box BG1 ⟨.slice (some ⟨gr, 0, none⟩) nr cr, fam, .slice (some ⟨gq, 0, none⟩) nq cq, ts, sq, kd, .slice (some ⟨gv, 0, none⟩) nv cv, row, qual, xs⟩
  obtain ⟨g0, g1, g2, g3, g4, g5, g6⟩ := BG1.cells7
  obtain ⟨gf0, gf1, gf2, gf3, gf4, gf5, gf6⟩ := BG1.fz7
  obtain ⟨m0, m1, m2, m3, m4, m5, m6⟩ := BE1.cells7
  simp only at g0 g1 g2 g3 g4 g5 g6 m0 m1 m2 m3 m4 m5 m6
  have HDN := Lib.hid (And.intro fb (And.intro LR (And.intro LQ (And.intro LV (And.intro LB GG)))))
  clear LR LQ LV LB GG fb BE1 BG1 A1 be bg HE lxo lxg
  simp only [filled] at HDN
  go_wp2
  obtain ⟨fb, LR, LQ, LV, LB, GG⟩ := HDN.out
  clear HDN
  generalize ((((((((w1).setCell ⟨w.heap.size + 1 + 1, 0, none⟩ (.slice (some ⟨gr, 0, none⟩) nr cr)).setCell ⟨w.heap.size + 1 + 1, 1, none⟩ (.int .i64 fam)).setCell ⟨w.heap.size + 1 + 1, 2, none⟩ (.slice (some ⟨gq, 0, none⟩) nq cq)).setCell ⟨w.heap.size + 1 + 1, 3, none⟩ (.int .i64 ts)).setCell ⟨w.heap.size + 1 + 1, 4, none⟩ (.int .i64 sq)).setCell ⟨w.heap.size + 1 + 1, 5, none⟩ (.int .i64 kd)).setCell ⟨w.heap.size + 1 + 1, 6, none⟩ (.slice (some ⟨gv, 0, none⟩) nv cv)) = wz at fb LR LQ LV LB GG ⊢
  obtain ⟨t0, t1, t2, t3, t4, t5, t6⟩ := fb.cells7
  simp only at t0 t1 t2 t3 t4 t5 t6
  (try simp only [Exit.inBlock, Exit.then])
  refine bodyPost_ret (v := .agg #[.slice (some ⟨gr, 0, none⟩) nr cr, .int .i64 fam, .slice (some ⟨gq, 0, none⟩) nq cq, .int .i64 ts, .int .i64 sq, .int .i64 kd, .slice (some ⟨gv, 0, none⟩) nv cv]) ?hres rfl ?_
  case hres => simp [results, Try.results30, go_sem, t0, t1, t2, t3, t4, t5, t6]
  exact ⟨⟨.slice (some ⟨gr, 0, none⟩) nr cr, fam, .slice (some ⟨gq, 0, none⟩) nq cq, ts, sq, kd, .slice (some ⟨gv, 0, none⟩) nv cv, row, qual, xs⟩, bs, some gv, rfl, ⟨rfl, rfl, rfl⟩, ⟨LR, LQ, LV⟩, ⟨HL.out.2.1.1, HL.out.2.1.2.1, ⟨hx1, hxs⟩⟩, LB, HL.out.2.2.2, GG, .inr (.inr (.inr (.inr rfl)))⟩

set_option maxRecDepth 100000 in
set_option maxHeartbeats 8000000 in
theorem turned_buf {gr nr cr gq nq cq gv nv cv gb nb cb B : Nat} {fam ts sq kd : Int} {row qual val bs : List Nat} {w : World} {k a b : Int} (h0 : (k == 0) = false) (h1 : (k == 1) = false) (h2 : (k == 2) = false) (h3 : (k == 3) = false) (h4 : (k == 4) = false) (h5 : (k == 5) = false) (h6 : (k == 6) = false) (le : LaidE w B ⟨.slice (some ⟨gr, 0, none⟩) nr cr, fam, .slice (some ⟨gq, 0, none⟩) nq cq, ts, sq, kd, .slice (some ⟨gv, 0, none⟩) nv cv, row, qual, val⟩) (fe : EntD.Fine ⟨.slice (some ⟨gr, 0, none⟩) nr cr, fam, .slice (some ⟨gq, 0, none⟩) nq cq, ts, sq, kd, .slice (some ⟨gv, 0, none⟩) nv cv, row, qual, val⟩) (lb : Laid w B (.slice (some ⟨gb, 0, none⟩) nb cb) bs) (hbs : Bys bs ∧ bs.length ≤ 5000) (ap : (gr ≠ gq ∧ gr ≠ gv ∧ gq ≠ gv) ∧ (gb ≠ gr ∧ gb ≠ gq ∧ gb ≠ gv)) :
    Calls Try.prog 30 #[.agg #[.slice (some ⟨gr, 0, none⟩) nr cr, .int .i64 fam, .slice (some ⟨gq, 0, none⟩) nq cq, .int .i64 ts, .int .i64 sq, .int .i64 kd, .slice (some ⟨gv, 0, none⟩) nv cv], .slice (some ⟨gb, 0, none⟩) nb cb, .agg #[.int .i64 k, .int .i64 a, .int .i64 b]] w fun r w' => ∃ D bs' o, r = .returned (.agg D.cells) ∧ (D.vr = .slice (some ⟨gr, 0, none⟩) nr cr ∧ D.vq = .slice (some ⟨gq, 0, none⟩) nq cq ∧ D.vv = .slice (some ⟨gv, 0, none⟩) nv cv) ∧ LaidE w' B D ∧ EntD.Fine D ∧ Laid w' B (.slice (some ⟨gb, 0, none⟩) nb cb) bs' ∧ (Bys bs' ∧ bs'.length ≤ 5000) ∧ w.grownBy w' o ∧ (o = none ∨ o = some gb ∨ o = some gr ∨ o = some gq ∨ o = some gv) := by
  have A1 : Below w.heap.size w (((w.alloc (.cells #[.slice (some ⟨gr, 0, none⟩) nr cr, .int .i64 fam, .slice (some ⟨gq, 0, none⟩) nq cq, .int .i64 ts, .int .i64 sq, .int .i64 kd, .slice (some ⟨gv, 0, none⟩) nv cv] 30)).alloc (.cells #[.int .i64 k, .int .i64 a, .int .i64 b] 62)).alloc (.cells #[.slice none 0 0, .int .i64 0, .slice none 0 0, .int .i64 0, .int .i64 0, .int .i64 0, .slice none 0 0] 30)) := (((Below.refl w.heap.size w).alloc (Nat.le_refl _) _).alloc (by simp) _).alloc (by simp; omega) _
  have be : EBox (((w.alloc (.cells #[.slice (some ⟨gr, 0, none⟩) nr cr, .int .i64 fam, .slice (some ⟨gq, 0, none⟩) nq cq, .int .i64 ts, .int .i64 sq, .int .i64 kd, .slice (some ⟨gv, 0, none⟩) nv cv] 30)).alloc (.cells #[.int .i64 k, .int .i64 a, .int .i64 b] 62)).alloc (.cells #[.slice none 0 0, .int .i64 0, .slice none 0 0, .int .i64 0, .int .i64 0, .int .i64 0, .slice none 0 0] 30)) w.heap.size ⟨.slice (some ⟨gr, 0, none⟩) nr cr, fam, .slice (some ⟨gq, 0, none⟩) nq cq, ts, sq, kd, .slice (some ⟨gv, 0, none⟩) nv cv, row, qual, val⟩ := ((EBox.new w ⟨.slice (some ⟨gr, 0, none⟩) nr cr, fam, .slice (some ⟨gq, 0, none⟩) nq cq, ts, sq, kd, .slice (some ⟨gv, 0, none⟩) nv cv, row, qual, val⟩).later ((Below.refl _ _).alloc (Nat.le_refl _) _)).later ((Below.refl _ _).alloc (Nat.le_refl _) _)
  have bg : EBox (((w.alloc (.cells #[.slice (some ⟨gr, 0, none⟩) nr cr, .int .i64 fam, .slice (some ⟨gq, 0, none⟩) nq cq, .int .i64 ts, .int .i64 sq, .int .i64 kd, .slice (some ⟨gv, 0, none⟩) nv cv] 30)).alloc (.cells #[.int .i64 k, .int .i64 a, .int .i64 b] 62)).alloc (.cells #[.slice none 0 0, .int .i64 0, .slice none 0 0, .int .i64 0, .int .i64 0, .int .i64 0, .slice none 0 0] 30)) (w.heap.size + 1 + 1) ⟨.slice none 0 0, 0, .slice none 0 0, 0, 0, 0, .slice none 0 0, [], [], []⟩ := by
    have h := EBox.new ((w.alloc (.cells #[.slice (some ⟨gr, 0, none⟩) nr cr, .int .i64 fam, .slice (some ⟨gq, 0, none⟩) nq cq, .int .i64 ts, .int .i64 sq, .int .i64 kd, .slice (some ⟨gv, 0, none⟩) nv cv] 30)).alloc (.cells #[.int .i64 k, .int .i64 a, .int .i64 b] 62)) ⟨.slice none 0 0, 0, .slice none 0 0, 0, 0, 0, .slice none 0 0, [], [], []⟩
    rw [World.size_alloc, World.size_alloc] at h
    exact h
  have HE := Lib.hid (And.intro A1 (And.intro be bg))
  have HL := Lib.hid (And.intro le (And.intro fe (And.intro lb hbs)))
  have HA := Lib.hid ap
  clear A1 be bg le fe lb hbs ap
  go_enter Try.func30, Try.ntmps30
  go_wp2_with fail
  refine (put_any (HL.out.2.2.1.later HE.out.1) HL.out.2.2.2.2 HL.out.2.2.2.1).mono ?_
  rintro r0 w1 ⟨rfl, xs, hxl, hx1, lx, gr1⟩
  obtain ⟨A1, be, bg⟩ := HE.out
  have hs1 : w.heap.size + 1 + 1 + 1 ≤ w1.heap.size := by have := gr1.size; simpa using this
  have oX : Value.ownBlock (.slice (some ⟨gb, 0, none⟩) nb cb) = some gb := rfl
  have lxo : ∀ z, gb = z → EBox (((w.alloc (.cells #[.slice (some ⟨gr, 0, none⟩) nr cr, .int .i64 fam, .slice (some ⟨gq, 0, none⟩) nq cq, .int .i64 ts, .int .i64 sq, .int .i64 kd, .slice (some ⟨gv, 0, none⟩) nv cv] 30)).alloc (.cells #[.int .i64 k, .int .i64 a, .int .i64 b] 62)).alloc (.cells #[.slice none 0 0, .int .i64 0, .slice none 0 0, .int .i64 0, .int .i64 0, .int .i64 0, .slice none 0 0] 30)) z ⟨.slice (some ⟨gr, 0, none⟩) nr cr, fam, .slice (some ⟨gq, 0, none⟩) nq cq, ts, sq, kd, .slice (some ⟨gv, 0, none⟩) nv cv, row, qual, val⟩ → False := fun z hz h => by
    subst hz
    exact laid_ebox (HL.out.2.2.1.later A1) h
  have lxg : ∀ z, gb = z → EBox (((w.alloc (.cells #[.slice (some ⟨gr, 0, none⟩) nr cr, .int .i64 fam, .slice (some ⟨gq, 0, none⟩) nq cq, .int .i64 ts, .int .i64 sq, .int .i64 kd, .slice (some ⟨gv, 0, none⟩) nv cv] 30)).alloc (.cells #[.int .i64 k, .int .i64 a, .int .i64 b] 62)).alloc (.cells #[.slice none 0 0, .int .i64 0, .slice none 0 0, .int .i64 0, .int .i64 0, .int .i64 0, .slice none 0 0] 30)) z ⟨.slice none 0 0, 0, .slice none 0 0, 0, 0, 0, .slice none 0 0, [], [], []⟩ → False := fun z hz h => by
    subst hz
    exact laid_ebox (HL.out.2.2.1.later A1) h
  have BE1 := be.far gr1 (fun z hz e => by cases hz; exact lxo _ e.symm be)
  have BG1 := bg.far gr1 (fun z hz e => by cases hz; exact lxg _ e.symm bg)
  have hfx : bs.length ≤ 5000 := HL.out.2.2.2.2
  have hxs : xs.length ≤ 5000 := Nat.le_trans (Nat.le_of_eq hxl) hfx
  have LR := ((HL.out.1.1.later A1).far gr1 (fun g hg h => by cases hg; simp [Value.ownBlock] at h; exact HA.out.2.1 h.symm)).fillo2 (D := ⟨.slice (some ⟨gr, 0, none⟩) nr cr, fam, .slice (some ⟨gq, 0, none⟩) nq cq, ts, sq, kd, .slice (some ⟨gv, 0, none⟩) nv cv, row, qual, val⟩) BG1
  have LQ := ((HL.out.1.2.1.later A1).far gr1 (fun g hg h => by cases hg; simp [Value.ownBlock] at h; exact HA.out.2.2.1 h.symm)).fillo2 (D := ⟨.slice (some ⟨gr, 0, none⟩) nr cr, fam, .slice (some ⟨gq, 0, none⟩) nq cq, ts, sq, kd, .slice (some ⟨gv, 0, none⟩) nv cv, row, qual, val⟩) BG1
  have LV := ((HL.out.1.2.2.later A1).far gr1 (fun g hg h => by cases hg; simp [Value.ownBlock] at h; exact HA.out.2.2.2 h.symm)).fillo2 (D := ⟨.slice (some ⟨gr, 0, none⟩) nr cr, fam, .slice (some ⟨gq, 0, none⟩) nq cq, ts, sq, kd, .slice (some ⟨gv, 0, none⟩) nv cv, row, qual, val⟩) BG1
  have LB := lx.fillo2 (D := ⟨.slice (some ⟨gr, 0, none⟩) nr cr, fam, .slice (some ⟨gq, 0, none⟩) nq cq, ts, sq, kd, .slice (some ⟨gv, 0, none⟩) nv cv, row, qual, val⟩) BG1
  have GG : w.grownBy (filled w1 (w.heap.size + 1 + 1) ⟨.slice (some ⟨gr, 0, none⟩) nr cr, fam, .slice (some ⟨gq, 0, none⟩) nq cq, ts, sq, kd, .slice (some ⟨gv, 0, none⟩) nv cv, row, qual, val⟩) (some gb) := grown_trans (grown_trans (grown_below A1 _) gr1 (.inl rfl)) (filled_grown w1 (w.heap.size + 1 + 1) ⟨.slice (some ⟨gr, 0, none⟩) nr cr, fam, .slice (some ⟨gq, 0, none⟩) nq cq, ts, sq, kd, .slice (some ⟨gv, 0, none⟩) nv cv, row, qual, val⟩) (.inr (fun g hg => by cases hg; omega))
  have fb := filled_box BG1 ⟨.slice (some ⟨gr, 0, none⟩) nr cr, fam, .slice (some ⟨gq, 0, none⟩) nq cq, ts, sq, kd, .slice (some ⟨gv, 0, none⟩) nv cv, row, qual, val⟩
  obtain ⟨g0, g1, g2, g3, g4, g5, g6⟩ := BG1.cells7
  obtain ⟨gf0, gf1, gf2, gf3, gf4, gf5, gf6⟩ := BG1.fz7
  obtain ⟨m0, m1, m2, m3, m4, m5, m6⟩ := BE1.cells7
  simp only at g0 g1 g2 g3 g4 g5 g6 m0 m1 m2 m3 m4 m5 m6
  have HDN := Lib.hid (And.intro fb (And.intro LR (And.intro LQ (And.intro LV (And.intro LB GG)))))
  clear LR LQ LV LB GG fb BE1 BG1 A1 be bg HE lxo lxg
  simp only [filled] at HDN
  go_wp2
  obtain ⟨fb, LR, LQ, LV, LB, GG⟩ := HDN.out
  clear HDN
  generalize ((((((((w1).setCell ⟨w.heap.size + 1 + 1, 0, none⟩ (.slice (some ⟨gr, 0, none⟩) nr cr)).setCell ⟨w.heap.size + 1 + 1, 1, none⟩ (.int .i64 fam)).setCell ⟨w.heap.size + 1 + 1, 2, none⟩ (.slice (some ⟨gq, 0, none⟩) nq cq)).setCell ⟨w.heap.size + 1 + 1, 3, none⟩ (.int .i64 ts)).setCell ⟨w.heap.size + 1 + 1, 4, none⟩ (.int .i64 sq)).setCell ⟨w.heap.size + 1 + 1, 5, none⟩ (.int .i64 kd)).setCell ⟨w.heap.size + 1 + 1, 6, none⟩ (.slice (some ⟨gv, 0, none⟩) nv cv)) = wz at fb LR LQ LV LB GG ⊢
  obtain ⟨t0, t1, t2, t3, t4, t5, t6⟩ := fb.cells7
  simp only at t0 t1 t2 t3 t4 t5 t6
  (try simp only [Exit.inBlock, Exit.then])
  refine bodyPost_ret (v := .agg #[.slice (some ⟨gr, 0, none⟩) nr cr, .int .i64 fam, .slice (some ⟨gq, 0, none⟩) nq cq, .int .i64 ts, .int .i64 sq, .int .i64 kd, .slice (some ⟨gv, 0, none⟩) nv cv]) ?hres rfl ?_
  case hres => simp [results, Try.results30, go_sem, t0, t1, t2, t3, t4, t5, t6]
  exact ⟨⟨.slice (some ⟨gr, 0, none⟩) nr cr, fam, .slice (some ⟨gq, 0, none⟩) nq cq, ts, sq, kd, .slice (some ⟨gv, 0, none⟩) nv cv, row, qual, val⟩, xs, some gb, rfl, ⟨rfl, rfl, rfl⟩, ⟨LR, LQ, LV⟩, HL.out.2.1, LB, ⟨hx1, hxs⟩, GG, .inr (.inl rfl)⟩

theorem turned_any {gr nr cr gq nq cq gv nv cv gb nb cb B : Nat} {fam ts sq kd : Int} {row qual val bs : List Nat} {w : World} {k a b : Int} (le : LaidE w B ⟨.slice (some ⟨gr, 0, none⟩) nr cr, fam, .slice (some ⟨gq, 0, none⟩) nq cq, ts, sq, kd, .slice (some ⟨gv, 0, none⟩) nv cv, row, qual, val⟩) (fe : EntD.Fine ⟨.slice (some ⟨gr, 0, none⟩) nr cr, fam, .slice (some ⟨gq, 0, none⟩) nq cq, ts, sq, kd, .slice (some ⟨gv, 0, none⟩) nv cv, row, qual, val⟩) (lb : Laid w B (.slice (some ⟨gb, 0, none⟩) nb cb) bs) (hbs : Bys bs ∧ bs.length ≤ 5000) (ap : (gr ≠ gq ∧ gr ≠ gv ∧ gq ≠ gv) ∧ (gb ≠ gr ∧ gb ≠ gq ∧ gb ≠ gv)) :
    Calls Try.prog 30 #[.agg #[.slice (some ⟨gr, 0, none⟩) nr cr, .int .i64 fam, .slice (some ⟨gq, 0, none⟩) nq cq, .int .i64 ts, .int .i64 sq, .int .i64 kd, .slice (some ⟨gv, 0, none⟩) nv cv], .slice (some ⟨gb, 0, none⟩) nb cb, .agg #[.int .i64 k, .int .i64 a, .int .i64 b]] w fun r w' => ∃ D bs' o, r = .returned (.agg D.cells) ∧ (D.vr = .slice (some ⟨gr, 0, none⟩) nr cr ∧ D.vq = .slice (some ⟨gq, 0, none⟩) nq cq ∧ D.vv = .slice (some ⟨gv, 0, none⟩) nv cv) ∧ LaidE w' B D ∧ EntD.Fine D ∧ Laid w' B (.slice (some ⟨gb, 0, none⟩) nb cb) bs' ∧ (Bys bs' ∧ bs'.length ≤ 5000) ∧ w.grownBy w' o ∧ (o = none ∨ o = some gb ∨ o = some gr ∨ o = some gq ∨ o = some gv) := by
  by_cases h0 : k = 0
  · subst h0; exact turned_row le fe lb hbs ap
  by_cases h1 : k = 1
  · subst h1; exact turned_qual le fe lb hbs ap
  by_cases h2 : k = 2
  · subst h2; exact turned_val le fe lb hbs ap
  by_cases h3 : k = 3
  · subst h3; exact turned_fam le fe lb hbs ap
  by_cases h4 : k = 4
  · subst h4; exact turned_ts le fe lb hbs ap
  by_cases h5 : k = 5
  · subst h5; exact turned_sq le fe lb hbs ap
  by_cases h6 : k = 6
  · subst h6; exact turned_kd le fe lb hbs ap
  exact turned_buf (by simpa using h0) (by simpa using h1) (by simpa using h2) (by simpa using h3) (by simpa using h4) (by simpa using h5) (by simpa using h6) le fe lb hbs ap

end Go.Proofs.Ytnjopfdeapclhaa
