import Derived.Test.YtjcpjpjccoeakaaJ18
import Derived.Test.YtjcpjpjccoeakaaCell52
import Derived.Deep.RegionHeld3
namespace Go.Proofs.Ytjcpjpjccoeakaa
open Go.RowKit
set_option linter.unusedVariables false

theorem EntD.Same.trans' {a b c : EntD} (h : EntD.Same a b) (k : EntD.Same c b) : EntD.Same a c := ⟨h.1.trans k.1.symm, h.2.1.trans k.2.1.symm, h.2.2.1.trans k.2.2.1.symm, h.2.2.2.1.trans k.2.2.2.1.symm, h.2.2.2.2.1.trans k.2.2.2.2.1.symm, h.2.2.2.2.2.1.trans k.2.2.2.2.2.1.symm, h.2.2.2.2.2.2.trans k.2.2.2.2.2.2.symm⟩
theorem three_in (w : World) (a b c : EntD) : EBox (((w.alloc (.cells a.cells 35)).alloc (.cells b.cells 35)).alloc (.cells c.cells 35)) w.heap.size a ∧ EBox (((w.alloc (.cells a.cells 35)).alloc (.cells b.cells 35)).alloc (.cells c.cells 35)) (w.heap.size + 1) b ∧ EBox (((w.alloc (.cells a.cells 35)).alloc (.cells b.cells 35)).alloc (.cells c.cells 35)) (w.heap.size + 1 + 1) c ∧ Below w.heap.size w (((w.alloc (.cells a.cells 35)).alloc (.cells b.cells 35)).alloc (.cells c.cells 35)) := by
  refine ⟨((EBox.new w a).later ((Below.refl _ _).alloc (Nat.le_refl _) _)).later ((Below.refl _ _).alloc (Nat.le_refl _) _), ?_, ?_, ((((Below.refl w.heap.size w).alloc (Nat.le_refl _) _).alloc (by simp) _).alloc (by simp; omega) _)⟩
  · have h := EBox.new (w.alloc (.cells a.cells 35)) b
    rw [World.size_alloc] at h
    exact h.later ((Below.refl _ _).alloc (Nat.le_refl _) _)
  · have h := EBox.new ((w.alloc (.cells a.cells 35)).alloc (.cells b.cells 35)) c
    rw [World.size_alloc, World.size_alloc] at h
    exact h

set_option maxRecDepth 100000 in
set_option maxHeartbeats 16000000 in
theorem cellOrder_walk {a b c : EntD} {w : World} (ha : EntD.Ok w a) (hb : EntD.Ok w b) (hc : EntD.Ok w c) :
    Calls Try.prog 4 #[.agg a.cells, .agg b.cells, .agg c.cells] w fun r w' => r = .returned (.bool true) ∧ Below w.heap.size w w' := by
  have HK : Hid (EntD.Ok w a ∧ EntD.Ok w b ∧ EntD.Ok w c) := ⟨ha, hb, hc⟩
  have HI := Lib.hid (three_in w a b c)
  have HF : Hid (EntD.Fine a.cut ∧ EntD.Fine b.cut ∧ EntD.Fine c.cut) := ⟨EntD.cut_fine ha, EntD.cut_fine hb, EntD.cut_fine hc⟩
  clear ha hb hc
  simp only [EntD.cells] at HI ⊢
  go_enter Try.func4, Try.ntmps4
  go_wp2_with fail
  refine (told_any _).mono ?_
  rintro q w1 ⟨rfl, hb1⟩
  have B1 := Lib.hid (HI.out.2.2.2.trans (hb1.mono HI.out.2.2.2.size))
  have I1 := Lib.hid (And.intro (HI.out.1.later hb1) (And.intro (HI.out.2.1.later hb1) (HI.out.2.2.1.later hb1)))
  clear hb1 HI
  go_wp2_with fail
  refine order3_region (e0 := a) (e1 := b) (e2 := c) I1.out.1 (HK.out.1.later B1.out) I1.out.2.1 (HK.out.2.1.later B1.out) I1.out.2.2 (HK.out.2.2.later B1.out) _ _ _ _ _ _ _ (fun qx qy qz X Y Z w2 x1 x2 x3 _ _ _ _ _ _ l1 l2 l3 s1 s2 s3 hb2 => ?_)
  have B2 := Lib.hid (B1.out.trans (hb2.mono B1.out.size))
  have I2 := Lib.hid (And.intro (I1.out.1.later hb2) (And.intro (I1.out.2.1.later hb2) (I1.out.2.2.later hb2)))
  have X2 := Lib.hid (And.intro x1 (And.intro x2 x3))
  have L2 := Lib.hid (And.intro l1 (And.intro l2 l3))
  have S2 := Lib.hid (And.intro s1 (And.intro s2 s3))
  have F2 : Hid (EntD.Fine X ∧ EntD.Fine Y ∧ EntD.Fine Z) := ⟨HF.out.1.same s1, HF.out.2.1.same s2, HF.out.2.2.same s3⟩
  clear hb2 x1 x2 x3 l1 l2 l3 s1 s2 s3 I1
  unfold order3Act
  simp only [EntD.cells]
  have D0 : Below w2.heap.size w2 w2.drew := (Below.refl _ _).drew
  have KS : Hid (∀ wx, Below w2.heap.size w2 wx → (wx.cell? ⟨qx, 0, none⟩ = some X.vr ∧ wx.cell? ⟨qx, 1, none⟩ = some (.int .i64 X.fam) ∧ wx.cell? ⟨qx, 2, none⟩ = some X.vq ∧ wx.cell? ⟨qx, 3, none⟩ = some (.int .i64 X.ts) ∧ wx.cell? ⟨qx, 4, none⟩ = some (.int .i64 X.seq) ∧ wx.cell? ⟨qx, 5, none⟩ = some (.int .i64 X.kind) ∧ wx.cell? ⟨qx, 6, none⟩ = some X.vv) ∧ (wx.cell? ⟨qy, 0, none⟩ = some Y.vr ∧ wx.cell? ⟨qy, 1, none⟩ = some (.int .i64 Y.fam) ∧ wx.cell? ⟨qy, 2, none⟩ = some Y.vq ∧ wx.cell? ⟨qy, 3, none⟩ = some (.int .i64 Y.ts) ∧ wx.cell? ⟨qy, 4, none⟩ = some (.int .i64 Y.seq) ∧ wx.cell? ⟨qy, 5, none⟩ = some (.int .i64 Y.kind) ∧ wx.cell? ⟨qy, 6, none⟩ = some Y.vv) ∧ (wx.cell? ⟨qz, 0, none⟩ = some Z.vr ∧ wx.cell? ⟨qz, 1, none⟩ = some (.int .i64 Z.fam) ∧ wx.cell? ⟨qz, 2, none⟩ = some Z.vq ∧ wx.cell? ⟨qz, 3, none⟩ = some (.int .i64 Z.ts) ∧ wx.cell? ⟨qz, 4, none⟩ = some (.int .i64 Z.seq) ∧ wx.cell? ⟨qz, 5, none⟩ = some (.int .i64 Z.kind) ∧ wx.cell? ⟨qz, 6, none⟩ = some Z.vv)) := fun wx h => ⟨(X2.out.1.later h).cells7, (X2.out.2.1.later h).cells7, (X2.out.2.2.later h).cells7⟩
  have OK2 : Hid (∀ wx, Below w2.heap.size w2 wx → EntD.Ok wx X ∧ EntD.Ok wx Y ∧ EntD.Ok wx Z) := fun wx h => ⟨(L2.out.1.later h).ok F2.out.1, (L2.out.2.1.later h).ok F2.out.2.1, (L2.out.2.2.later h).ok F2.out.2.2⟩
  obtain ⟨XY, hXY⟩ : ∃ v, v = compareS X Y := ⟨_, rfl⟩
  obtain ⟨YZ, hYZ⟩ : ∃ v, v = compareS Y Z := ⟨_, rfl⟩
  obtain ⟨XZ, hXZ⟩ : ∃ v, v = compareS X Z := ⟨_, rfl⟩
  have VS := Lib.hid (And.intro hXY (And.intro hYZ hXZ))
  have C1 : Hid (∀ wx, Below w2.heap.size w2 wx → Calls Try.prog 20 #[.agg X.cells, .agg Y.cells] wx fun r w' => r = .returned (.int .i64 XY) ∧ Below wx.heap.size wx w') := fun wx h => by rw [hXY]; exact compare_any (OK2.out wx h).1 (OK2.out wx h).2.1
  have C2 : Hid (∀ wx, Below w2.heap.size w2 wx → Calls Try.prog 20 #[.agg Y.cells, .agg Z.cells] wx fun r w' => r = .returned (.int .i64 YZ) ∧ Below wx.heap.size wx w') := fun wx h => by rw [hYZ]; exact compare_any (OK2.out wx h).2.1 (OK2.out wx h).2.2
  have C3 : Hid (∀ wx, Below w2.heap.size w2 wx → Calls Try.prog 20 #[.agg X.cells, .agg Z.cells] wx fun r w' => r = .returned (.int .i64 XZ) ∧ Below wx.heap.size wx w') := fun wx h => by rw [hXZ]; exact compare_any (OK2.out wx h).1 (OK2.out wx h).2.2
  clear hXY hYZ hXZ
  go_wp2_with fail
  go_region_held3 (fun wx => (wx.cell? ⟨qx, 0, none⟩ = some X.vr ∧ wx.cell? ⟨qx, 1, none⟩ = some (.int .i64 X.fam) ∧ wx.cell? ⟨qx, 2, none⟩ = some X.vq ∧ wx.cell? ⟨qx, 3, none⟩ = some (.int .i64 X.ts) ∧ wx.cell? ⟨qx, 4, none⟩ = some (.int .i64 X.seq) ∧ wx.cell? ⟨qx, 5, none⟩ = some (.int .i64 X.kind) ∧ wx.cell? ⟨qx, 6, none⟩ = some X.vv) ∧ (wx.cell? ⟨qy, 0, none⟩ = some Y.vr ∧ wx.cell? ⟨qy, 1, none⟩ = some (.int .i64 Y.fam) ∧ wx.cell? ⟨qy, 2, none⟩ = some Y.vq ∧ wx.cell? ⟨qy, 3, none⟩ = some (.int .i64 Y.ts) ∧ wx.cell? ⟨qy, 4, none⟩ = some (.int .i64 Y.seq) ∧ wx.cell? ⟨qy, 5, none⟩ = some (.int .i64 Y.kind) ∧ wx.cell? ⟨qy, 6, none⟩ = some Y.vv) ∧ (wx.cell? ⟨qz, 0, none⟩ = some Z.vr ∧ wx.cell? ⟨qz, 1, none⟩ = some (.int .i64 Z.fam) ∧ wx.cell? ⟨qz, 2, none⟩ = some Z.vq ∧ wx.cell? ⟨qz, 3, none⟩ = some (.int .i64 Z.ts) ∧ wx.cell? ⟨qz, 4, none⟩ = some (.int .i64 Z.seq) ∧ wx.cell? ⟨qz, 5, none⟩ = some (.int .i64 Z.kind) ∧ wx.cell? ⟨qz, 6, none⟩ = some Z.vv)) (first | exact KS.out _ D0 | exact KS.out _ DD1 | exact KS.out _ DD2 | exact KS.out _ DD3)
    (first
      | (go_at_call 20; refine (C3.out _ DD2).mono ?_; rintro e3 w5 ⟨rfl, hb5⟩; have DD3 := DD2.trans (hb5.mono DD2.size))
      | (go_at_call 20; refine (C2.out _ DD1).mono ?_; rintro e2 w4 ⟨rfl, hb4⟩; have DD2 := DD1.trans (hb4.mono DD1.size))
      | (go_at_call 20; refine (C1.out _ D0).mono ?_; rintro e1 w3 ⟨rfl, hb3⟩; have DD1 := D0.trans (hb3.mono D0.size)))
  have DX := Lib.hid DD3
  clear D0 DD1 DD2 DD3 hb3 hb4 hb5 C1 C2 C3 KS
  have B5 := Lib.hid (B2.out.trans (DX.out.mono B2.out.size))
  have I5 := Lib.hid (And.intro (I2.out.1.later DX.out) (And.intro (I2.out.2.1.later DX.out) (I2.out.2.2.later DX.out)))
  have X5 := Lib.hid (And.intro (X2.out.1.later DX.out) (And.intro (X2.out.2.1.later DX.out) (X2.out.2.2.later DX.out)))
  have L5 := Lib.hid (And.intro (L2.out.1.later DX.out) (And.intro (L2.out.2.1.later DX.out) (L2.out.2.2.later DX.out)))
  have OK5 : Hid (∀ wx, Below w5.heap.size w5 wx → EntD.Ok wx X ∧ EntD.Ok wx Y) := fun wx h => ⟨(L5.out.1.later h).ok F2.out.1, (L5.out.2.1.later h).ok F2.out.2.1⟩
  have OA5 : Hid (∀ wx, Below w5.heap.size w5 wx → EntD.Ok wx a ∧ EntD.Ok wx b) := fun wx h => ⟨(HK.out.1.later B5.out).later h, (HK.out.2.1.later B5.out).later h⟩
  have KS : Hid (∀ wx, Below w5.heap.size w5 wx → (wx.cell? ⟨w.heap.size, 0, none⟩ = some a.vr ∧ wx.cell? ⟨w.heap.size, 1, none⟩ = some (.int .i64 a.fam) ∧ wx.cell? ⟨w.heap.size, 2, none⟩ = some a.vq ∧ wx.cell? ⟨w.heap.size, 3, none⟩ = some (.int .i64 a.ts) ∧ wx.cell? ⟨w.heap.size, 4, none⟩ = some (.int .i64 a.seq) ∧ wx.cell? ⟨w.heap.size, 5, none⟩ = some (.int .i64 a.kind) ∧ wx.cell? ⟨w.heap.size, 6, none⟩ = some a.vv) ∧ (wx.cell? ⟨(w.heap.size + 1), 0, none⟩ = some b.vr ∧ wx.cell? ⟨(w.heap.size + 1), 1, none⟩ = some (.int .i64 b.fam) ∧ wx.cell? ⟨(w.heap.size + 1), 2, none⟩ = some b.vq ∧ wx.cell? ⟨(w.heap.size + 1), 3, none⟩ = some (.int .i64 b.ts) ∧ wx.cell? ⟨(w.heap.size + 1), 4, none⟩ = some (.int .i64 b.seq) ∧ wx.cell? ⟨(w.heap.size + 1), 5, none⟩ = some (.int .i64 b.kind) ∧ wx.cell? ⟨(w.heap.size + 1), 6, none⟩ = some b.vv) ∧ (wx.cell? ⟨qx, 0, none⟩ = some X.vr ∧ wx.cell? ⟨qx, 1, none⟩ = some (.int .i64 X.fam) ∧ wx.cell? ⟨qx, 2, none⟩ = some X.vq ∧ wx.cell? ⟨qx, 3, none⟩ = some (.int .i64 X.ts) ∧ wx.cell? ⟨qx, 4, none⟩ = some (.int .i64 X.seq) ∧ wx.cell? ⟨qx, 5, none⟩ = some (.int .i64 X.kind) ∧ wx.cell? ⟨qx, 6, none⟩ = some X.vv) ∧ (wx.cell? ⟨qy, 0, none⟩ = some Y.vr ∧ wx.cell? ⟨qy, 1, none⟩ = some (.int .i64 Y.fam) ∧ wx.cell? ⟨qy, 2, none⟩ = some Y.vq ∧ wx.cell? ⟨qy, 3, none⟩ = some (.int .i64 Y.ts) ∧ wx.cell? ⟨qy, 4, none⟩ = some (.int .i64 Y.seq) ∧ wx.cell? ⟨qy, 5, none⟩ = some (.int .i64 Y.kind) ∧ wx.cell? ⟨qy, 6, none⟩ = some Y.vv)) := fun wx h => ⟨(I5.out.1.later h).cells7, (I5.out.2.1.later h).cells7, (X5.out.1.later h).cells7, (X5.out.2.1.later h).cells7⟩
  have D0 : Below w5.heap.size w5 w5.drew := (Below.refl _ _).drew
  obtain ⟨YX, hYX⟩ : ∃ v, v = compareS Y X := ⟨_, rfl⟩
  have hneg : IntKind.i64.wrap (-YX) = XY := by
    have h1 := compareS_swap X Y
    have h2 := compareS_small X Y
    rw [← hYX, ← VS.out.1] at h1
    rw [← VS.out.1] at h2
    rw [h1, Int.neg_neg]
    have h3 : XY = -1 ∨ XY = 0 ∨ XY = 1 := by omega
    rcases h3 with h | h | h <;> rw [h] <;> rfl
  have C4 : Hid (∀ wx P R, EntD.Ok wx P → EntD.Ok wx R → EntD.Same P a.cut → EntD.Same R b.cut → Calls Try.prog 21 #[.agg P.cells, .agg R.cells] wx fun r w' => r = .returned (.int .i64 XY) ∧ Below wx.heap.size wx w') := fun wx P R h1 h2 h3 h4 => by
    rw [VS.out.1, compareS_same S2.out.1 S2.out.2.1, ← compareS_same h3 h4]
    exact refCompare_any h1 h2
  have C5 : Hid (∀ wx, Below w5.heap.size w5 wx → Calls Try.prog 20 #[.agg Y.cells, .agg X.cells] wx fun r w' => r = .returned (.int .i64 YX) ∧ Below wx.heap.size wx w') := fun wx h => by rw [hYX]; exact compare_any (OK5.out wx h).2 (OK5.out wx h).1
  have C6 : Hid (∀ wx, Below w5.heap.size w5 wx → Calls Try.prog 20 #[.agg X.cells, .agg X.cells] wx fun r w' => r = .returned (.int .i64 0) ∧ Below wx.heap.size wx w') := fun wx h => by rw [← compareS_self X]; exact compare_any (OK5.out wx h).1 (OK5.out wx h).1
  clear hYX
  go_wp2_with fail
  go_region_held3 (fun wx => (wx.cell? ⟨w.heap.size, 0, none⟩ = some a.vr ∧ wx.cell? ⟨w.heap.size, 1, none⟩ = some (.int .i64 a.fam) ∧ wx.cell? ⟨w.heap.size, 2, none⟩ = some a.vq ∧ wx.cell? ⟨w.heap.size, 3, none⟩ = some (.int .i64 a.ts) ∧ wx.cell? ⟨w.heap.size, 4, none⟩ = some (.int .i64 a.seq) ∧ wx.cell? ⟨w.heap.size, 5, none⟩ = some (.int .i64 a.kind) ∧ wx.cell? ⟨w.heap.size, 6, none⟩ = some a.vv) ∧ (wx.cell? ⟨(w.heap.size + 1), 0, none⟩ = some b.vr ∧ wx.cell? ⟨(w.heap.size + 1), 1, none⟩ = some (.int .i64 b.fam) ∧ wx.cell? ⟨(w.heap.size + 1), 2, none⟩ = some b.vq ∧ wx.cell? ⟨(w.heap.size + 1), 3, none⟩ = some (.int .i64 b.ts) ∧ wx.cell? ⟨(w.heap.size + 1), 4, none⟩ = some (.int .i64 b.seq) ∧ wx.cell? ⟨(w.heap.size + 1), 5, none⟩ = some (.int .i64 b.kind) ∧ wx.cell? ⟨(w.heap.size + 1), 6, none⟩ = some b.vv) ∧ (wx.cell? ⟨qx, 0, none⟩ = some X.vr ∧ wx.cell? ⟨qx, 1, none⟩ = some (.int .i64 X.fam) ∧ wx.cell? ⟨qx, 2, none⟩ = some X.vq ∧ wx.cell? ⟨qx, 3, none⟩ = some (.int .i64 X.ts) ∧ wx.cell? ⟨qx, 4, none⟩ = some (.int .i64 X.seq) ∧ wx.cell? ⟨qx, 5, none⟩ = some (.int .i64 X.kind) ∧ wx.cell? ⟨qx, 6, none⟩ = some X.vv) ∧ (wx.cell? ⟨qy, 0, none⟩ = some Y.vr ∧ wx.cell? ⟨qy, 1, none⟩ = some (.int .i64 Y.fam) ∧ wx.cell? ⟨qy, 2, none⟩ = some Y.vq ∧ wx.cell? ⟨qy, 3, none⟩ = some (.int .i64 Y.ts) ∧ wx.cell? ⟨qy, 4, none⟩ = some (.int .i64 Y.seq) ∧ wx.cell? ⟨qy, 5, none⟩ = some (.int .i64 Y.kind) ∧ wx.cell? ⟨qy, 6, none⟩ = some Y.vv)) (first | exact KS.out _ D0 | exact KS.out _ DD1 | exact KS.out _ DD2 | exact KS.out _ DD3 | exact KS.out _ DD4 | exact KS.out _ DD5)
    (first
      | (go_at_call 20; refine (C6.out _ DD4).mono ?_; rintro e5 w10 ⟨rfl, hb10⟩; have DD5 := DD4.trans (hb10.mono DD4.size))
      | (go_at_call 20; refine (C5.out _ DD3).mono ?_; rintro e4 w9 ⟨rfl, hb9⟩; have DD4 := DD3.trans (hb9.mono DD3.size))
      | (go_at_call 21; refine (C4.out _ _ _ HPR.out.1 HPR.out.2.1 HPR.out.2.2.1 HPR.out.2.2.2).mono ?_; rintro e3 w8 ⟨rfl, hb8⟩; have DD3 := DD2.trans (hb8.mono DD2.size))
      | (go_at_call 19; refine (entry_any (OA5.out _ DD1).2).mono ?_; rintro e2 w7 ⟨R, rfl, sr, lr, hb7⟩; have DD2 := DD1.trans (hb7.mono DD1.size); have HPR := Lib.hid (And.intro ((HP.out.2.later hb7).ok (HF.out.1.same HP.out.1)) (And.intro (lr.ok (HF.out.2.1.same sr)) (And.intro HP.out.1 sr))))
      | (go_at_call 19; refine (entry_any (OA5.out _ D0).1).mono ?_; rintro e1 w6 ⟨P, rfl, sp, lp, hb6⟩; have DD1 := D0.trans (hb6.mono D0.size); have HP := Lib.hid (And.intro sp lp)))
  have DY := Lib.hid DD5
  clear D0 DD1 DD2 DD3 DD4 DD5 KS C4 C5 C6 HPR HP hb6 hb7 hb8 hb9 hb10
  have BA := Lib.hid (B5.out.trans (DY.out.mono B5.out.size))
  have IA := Lib.hid (And.intro (I5.out.1.later DY.out) (And.intro (I5.out.2.1.later DY.out) (I5.out.2.2.later DY.out)))
  have XA := Lib.hid (And.intro (X5.out.1.later DY.out) (And.intro (X5.out.2.1.later DY.out) (X5.out.2.2.later DY.out)))
  have LA := Lib.hid (And.intro (L5.out.1.later DY.out) (And.intro (L5.out.2.1.later DY.out) (L5.out.2.2.later DY.out)))
  have KS : Hid (∀ wx, Below w10.heap.size w10 wx → ((wx.cell? ⟨w.heap.size, 0, none⟩ = some a.vr ∧ wx.cell? ⟨w.heap.size, 1, none⟩ = some (.int .i64 a.fam) ∧ wx.cell? ⟨w.heap.size, 2, none⟩ = some a.vq ∧ wx.cell? ⟨w.heap.size, 3, none⟩ = some (.int .i64 a.ts) ∧ wx.cell? ⟨w.heap.size, 4, none⟩ = some (.int .i64 a.seq) ∧ wx.cell? ⟨w.heap.size, 5, none⟩ = some (.int .i64 a.kind) ∧ wx.cell? ⟨w.heap.size, 6, none⟩ = some a.vv) ∧ (wx.cell? ⟨(w.heap.size + 1), 0, none⟩ = some b.vr ∧ wx.cell? ⟨(w.heap.size + 1), 1, none⟩ = some (.int .i64 b.fam) ∧ wx.cell? ⟨(w.heap.size + 1), 2, none⟩ = some b.vq ∧ wx.cell? ⟨(w.heap.size + 1), 3, none⟩ = some (.int .i64 b.ts) ∧ wx.cell? ⟨(w.heap.size + 1), 4, none⟩ = some (.int .i64 b.seq) ∧ wx.cell? ⟨(w.heap.size + 1), 5, none⟩ = some (.int .i64 b.kind) ∧ wx.cell? ⟨(w.heap.size + 1), 6, none⟩ = some b.vv) ∧ (wx.cell? ⟨(w.heap.size + 1 + 1), 0, none⟩ = some c.vr ∧ wx.cell? ⟨(w.heap.size + 1 + 1), 1, none⟩ = some (.int .i64 c.fam) ∧ wx.cell? ⟨(w.heap.size + 1 + 1), 2, none⟩ = some c.vq ∧ wx.cell? ⟨(w.heap.size + 1 + 1), 3, none⟩ = some (.int .i64 c.ts) ∧ wx.cell? ⟨(w.heap.size + 1 + 1), 4, none⟩ = some (.int .i64 c.seq) ∧ wx.cell? ⟨(w.heap.size + 1 + 1), 5, none⟩ = some (.int .i64 c.kind) ∧ wx.cell? ⟨(w.heap.size + 1 + 1), 6, none⟩ = some c.vv)) ∧ ((wx.cell? ⟨qx, 0, none⟩ = some X.vr ∧ wx.cell? ⟨qx, 1, none⟩ = some (.int .i64 X.fam) ∧ wx.cell? ⟨qx, 2, none⟩ = some X.vq ∧ wx.cell? ⟨qx, 3, none⟩ = some (.int .i64 X.ts) ∧ wx.cell? ⟨qx, 4, none⟩ = some (.int .i64 X.seq) ∧ wx.cell? ⟨qx, 5, none⟩ = some (.int .i64 X.kind) ∧ wx.cell? ⟨qx, 6, none⟩ = some X.vv) ∧ (wx.cell? ⟨qy, 0, none⟩ = some Y.vr ∧ wx.cell? ⟨qy, 1, none⟩ = some (.int .i64 Y.fam) ∧ wx.cell? ⟨qy, 2, none⟩ = some Y.vq ∧ wx.cell? ⟨qy, 3, none⟩ = some (.int .i64 Y.ts) ∧ wx.cell? ⟨qy, 4, none⟩ = some (.int .i64 Y.seq) ∧ wx.cell? ⟨qy, 5, none⟩ = some (.int .i64 Y.kind) ∧ wx.cell? ⟨qy, 6, none⟩ = some Y.vv) ∧ (wx.cell? ⟨qz, 0, none⟩ = some Z.vr ∧ wx.cell? ⟨qz, 1, none⟩ = some (.int .i64 Z.fam) ∧ wx.cell? ⟨qz, 2, none⟩ = some Z.vq ∧ wx.cell? ⟨qz, 3, none⟩ = some (.int .i64 Z.ts) ∧ wx.cell? ⟨qz, 4, none⟩ = some (.int .i64 Z.seq) ∧ wx.cell? ⟨qz, 5, none⟩ = some (.int .i64 Z.kind) ∧ wx.cell? ⟨qz, 6, none⟩ = some Z.vv))) := fun wx h => ⟨⟨(IA.out.1.later h).cells7, (IA.out.2.1.later h).cells7, (IA.out.2.2.later h).cells7⟩, ⟨(XA.out.1.later h).cells7, (XA.out.2.1.later h).cells7, (XA.out.2.2.later h).cells7⟩⟩
  have OA : Hid (∀ wx, Below w10.heap.size w10 wx → EntD.Ok wx a ∧ EntD.Ok wx b ∧ EntD.Ok wx c) := fun wx h => ⟨(HK.out.1.later BA.out).later h, (HK.out.2.1.later BA.out).later h, (HK.out.2.2.later BA.out).later h⟩
  have T1 : Hid (∀ wx P, Below w10.heap.size w10 wx → EntD.Ok wx P → EntD.Same P a.cut → Calls Try.prog 22 #[.agg X.cells, .agg P.cells] wx fun r w' => r = .returned (.bool true) ∧ Below wx.heap.size wx w') := fun wx P h1 h2 h3 => stands_any (LA.out.1.later h1) h2 (S2.out.1.trans' h3) F2.out.1
  have T2 : Hid (∀ wx P, Below w10.heap.size w10 wx → EntD.Ok wx P → EntD.Same P b.cut → Calls Try.prog 22 #[.agg Y.cells, .agg P.cells] wx fun r w' => r = .returned (.bool true) ∧ Below wx.heap.size wx w') := fun wx P h1 h2 h3 => stands_any (LA.out.2.1.later h1) h2 (S2.out.2.1.trans' h3) F2.out.2.1
  have T3 : Hid (∀ wx P, Below w10.heap.size w10 wx → EntD.Ok wx P → EntD.Same P c.cut → Calls Try.prog 22 #[.agg Z.cells, .agg P.cells] wx fun r w' => r = .returned (.bool true) ∧ Below wx.heap.size wx w') := fun wx P h1 h2 h3 => stands_any (LA.out.2.2.later h1) h2 (S2.out.2.2.trans' h3) F2.out.2.2
  have D0 : Below w10.heap.size w10 w10.drew := (Below.refl _ _).drew
  have TRI : Hid (Tri XY YZ XZ) := by unfold Hid; rw [VS.out.1, VS.out.2.1, VS.out.2.2]; exact compareS_tri X Y Z
  have tri := TRI.out
  unfold Tri at tri
  clear hneg DY
  rcases Int.lt_trichotomy XY 0 with hx | hx | hx
  · have n1 : (XY == 0) = false := by simp; omega
    have n2 : XY ≤ 0 := by omega
    by_cases hy : YZ ≤ 0
    · have n3 : XZ ≤ 0 := by omega
      clear tri
      go_wp2_with fail
      go_region_held3 (fun wx => ((wx.cell? ⟨w.heap.size, 0, none⟩ = some a.vr ∧ wx.cell? ⟨w.heap.size, 1, none⟩ = some (.int .i64 a.fam) ∧ wx.cell? ⟨w.heap.size, 2, none⟩ = some a.vq ∧ wx.cell? ⟨w.heap.size, 3, none⟩ = some (.int .i64 a.ts) ∧ wx.cell? ⟨w.heap.size, 4, none⟩ = some (.int .i64 a.seq) ∧ wx.cell? ⟨w.heap.size, 5, none⟩ = some (.int .i64 a.kind) ∧ wx.cell? ⟨w.heap.size, 6, none⟩ = some a.vv) ∧ (wx.cell? ⟨(w.heap.size + 1), 0, none⟩ = some b.vr ∧ wx.cell? ⟨(w.heap.size + 1), 1, none⟩ = some (.int .i64 b.fam) ∧ wx.cell? ⟨(w.heap.size + 1), 2, none⟩ = some b.vq ∧ wx.cell? ⟨(w.heap.size + 1), 3, none⟩ = some (.int .i64 b.ts) ∧ wx.cell? ⟨(w.heap.size + 1), 4, none⟩ = some (.int .i64 b.seq) ∧ wx.cell? ⟨(w.heap.size + 1), 5, none⟩ = some (.int .i64 b.kind) ∧ wx.cell? ⟨(w.heap.size + 1), 6, none⟩ = some b.vv) ∧ (wx.cell? ⟨(w.heap.size + 1 + 1), 0, none⟩ = some c.vr ∧ wx.cell? ⟨(w.heap.size + 1 + 1), 1, none⟩ = some (.int .i64 c.fam) ∧ wx.cell? ⟨(w.heap.size + 1 + 1), 2, none⟩ = some c.vq ∧ wx.cell? ⟨(w.heap.size + 1 + 1), 3, none⟩ = some (.int .i64 c.ts) ∧ wx.cell? ⟨(w.heap.size + 1 + 1), 4, none⟩ = some (.int .i64 c.seq) ∧ wx.cell? ⟨(w.heap.size + 1 + 1), 5, none⟩ = some (.int .i64 c.kind) ∧ wx.cell? ⟨(w.heap.size + 1 + 1), 6, none⟩ = some c.vv)) ∧ ((wx.cell? ⟨qx, 0, none⟩ = some X.vr ∧ wx.cell? ⟨qx, 1, none⟩ = some (.int .i64 X.fam) ∧ wx.cell? ⟨qx, 2, none⟩ = some X.vq ∧ wx.cell? ⟨qx, 3, none⟩ = some (.int .i64 X.ts) ∧ wx.cell? ⟨qx, 4, none⟩ = some (.int .i64 X.seq) ∧ wx.cell? ⟨qx, 5, none⟩ = some (.int .i64 X.kind) ∧ wx.cell? ⟨qx, 6, none⟩ = some X.vv) ∧ (wx.cell? ⟨qy, 0, none⟩ = some Y.vr ∧ wx.cell? ⟨qy, 1, none⟩ = some (.int .i64 Y.fam) ∧ wx.cell? ⟨qy, 2, none⟩ = some Y.vq ∧ wx.cell? ⟨qy, 3, none⟩ = some (.int .i64 Y.ts) ∧ wx.cell? ⟨qy, 4, none⟩ = some (.int .i64 Y.seq) ∧ wx.cell? ⟨qy, 5, none⟩ = some (.int .i64 Y.kind) ∧ wx.cell? ⟨qy, 6, none⟩ = some Y.vv) ∧ (wx.cell? ⟨qz, 0, none⟩ = some Z.vr ∧ wx.cell? ⟨qz, 1, none⟩ = some (.int .i64 Z.fam) ∧ wx.cell? ⟨qz, 2, none⟩ = some Z.vq ∧ wx.cell? ⟨qz, 3, none⟩ = some (.int .i64 Z.ts) ∧ wx.cell? ⟨qz, 4, none⟩ = some (.int .i64 Z.seq) ∧ wx.cell? ⟨qz, 5, none⟩ = some (.int .i64 Z.kind) ∧ wx.cell? ⟨qz, 6, none⟩ = some Z.vv))) (first | exact KS.out _ D0 | exact KS.out _ DD1 | exact KS.out _ DD2 | exact KS.out _ DD3 | exact KS.out _ DD4 | exact KS.out _ DD5 | exact KS.out _ DD6)
        (first
          | (go_at_call 22; refine (T3.out _ _ DD5 HP3.out.1 HP3.out.2).mono ?_; rintro e6 w16 ⟨rfl, hb16⟩; have DD6 := DD5.trans (hb16.mono DD5.size))
          | (go_at_call 22; refine (T2.out _ _ DD3 HP2.out.1 HP2.out.2).mono ?_; rintro e4 w14 ⟨rfl, hb14⟩; have DD4 := DD3.trans (hb14.mono DD3.size); clear HP2)
          | (go_at_call 22; refine (T1.out _ _ DD1 HP1.out.1 HP1.out.2).mono ?_; rintro e2 w12 ⟨rfl, hb12⟩; have DD2 := DD1.trans (hb12.mono DD1.size); clear HP1)
          | (go_at_call 19; refine (entry_any (OA.out _ DD4).2.2).mono ?_; rintro e5 w15 ⟨P3, rfl, sp, lp, hb15⟩; have DD5 := DD4.trans (hb15.mono DD4.size); have HP3 := Lib.hid (And.intro (lp.ok (HF.out.2.2.same sp)) sp))
          | (go_at_call 19; refine (entry_any (OA.out _ DD2).2.1).mono ?_; rintro e3 w13 ⟨P2, rfl, sp, lp, hb13⟩; have DD3 := DD2.trans (hb13.mono DD2.size); have HP2 := Lib.hid (And.intro (lp.ok (HF.out.2.1.same sp)) sp))
          | (go_at_call 19; refine (entry_any (OA.out _ D0).1).mono ?_; rintro e1 w11 ⟨P1, rfl, sp, lp, hb11⟩; have DD1 := D0.trans (hb11.mono D0.size); have HP1 := Lib.hid (And.intro (lp.ok (HF.out.1.same sp)) sp)))
      go_wp2
      go_ret
      exact ⟨rfl, BA.out.trans (DD6.mono BA.out.size)⟩
    · have n3 : 0 < YZ := by omega
      clear tri
      go_wp2_with fail
      go_region_held3 (fun wx => ((wx.cell? ⟨w.heap.size, 0, none⟩ = some a.vr ∧ wx.cell? ⟨w.heap.size, 1, none⟩ = some (.int .i64 a.fam) ∧ wx.cell? ⟨w.heap.size, 2, none⟩ = some a.vq ∧ wx.cell? ⟨w.heap.size, 3, none⟩ = some (.int .i64 a.ts) ∧ wx.cell? ⟨w.heap.size, 4, none⟩ = some (.int .i64 a.seq) ∧ wx.cell? ⟨w.heap.size, 5, none⟩ = some (.int .i64 a.kind) ∧ wx.cell? ⟨w.heap.size, 6, none⟩ = some a.vv) ∧ (wx.cell? ⟨(w.heap.size + 1), 0, none⟩ = some b.vr ∧ wx.cell? ⟨(w.heap.size + 1), 1, none⟩ = some (.int .i64 b.fam) ∧ wx.cell? ⟨(w.heap.size + 1), 2, none⟩ = some b.vq ∧ wx.cell? ⟨(w.heap.size + 1), 3, none⟩ = some (.int .i64 b.ts) ∧ wx.cell? ⟨(w.heap.size + 1), 4, none⟩ = some (.int .i64 b.seq) ∧ wx.cell? ⟨(w.heap.size + 1), 5, none⟩ = some (.int .i64 b.kind) ∧ wx.cell? ⟨(w.heap.size + 1), 6, none⟩ = some b.vv) ∧ (wx.cell? ⟨(w.heap.size + 1 + 1), 0, none⟩ = some c.vr ∧ wx.cell? ⟨(w.heap.size + 1 + 1), 1, none⟩ = some (.int .i64 c.fam) ∧ wx.cell? ⟨(w.heap.size + 1 + 1), 2, none⟩ = some c.vq ∧ wx.cell? ⟨(w.heap.size + 1 + 1), 3, none⟩ = some (.int .i64 c.ts) ∧ wx.cell? ⟨(w.heap.size + 1 + 1), 4, none⟩ = some (.int .i64 c.seq) ∧ wx.cell? ⟨(w.heap.size + 1 + 1), 5, none⟩ = some (.int .i64 c.kind) ∧ wx.cell? ⟨(w.heap.size + 1 + 1), 6, none⟩ = some c.vv)) ∧ ((wx.cell? ⟨qx, 0, none⟩ = some X.vr ∧ wx.cell? ⟨qx, 1, none⟩ = some (.int .i64 X.fam) ∧ wx.cell? ⟨qx, 2, none⟩ = some X.vq ∧ wx.cell? ⟨qx, 3, none⟩ = some (.int .i64 X.ts) ∧ wx.cell? ⟨qx, 4, none⟩ = some (.int .i64 X.seq) ∧ wx.cell? ⟨qx, 5, none⟩ = some (.int .i64 X.kind) ∧ wx.cell? ⟨qx, 6, none⟩ = some X.vv) ∧ (wx.cell? ⟨qy, 0, none⟩ = some Y.vr ∧ wx.cell? ⟨qy, 1, none⟩ = some (.int .i64 Y.fam) ∧ wx.cell? ⟨qy, 2, none⟩ = some Y.vq ∧ wx.cell? ⟨qy, 3, none⟩ = some (.int .i64 Y.ts) ∧ wx.cell? ⟨qy, 4, none⟩ = some (.int .i64 Y.seq) ∧ wx.cell? ⟨qy, 5, none⟩ = some (.int .i64 Y.kind) ∧ wx.cell? ⟨qy, 6, none⟩ = some Y.vv) ∧ (wx.cell? ⟨qz, 0, none⟩ = some Z.vr ∧ wx.cell? ⟨qz, 1, none⟩ = some (.int .i64 Z.fam) ∧ wx.cell? ⟨qz, 2, none⟩ = some Z.vq ∧ wx.cell? ⟨qz, 3, none⟩ = some (.int .i64 Z.ts) ∧ wx.cell? ⟨qz, 4, none⟩ = some (.int .i64 Z.seq) ∧ wx.cell? ⟨qz, 5, none⟩ = some (.int .i64 Z.kind) ∧ wx.cell? ⟨qz, 6, none⟩ = some Z.vv))) (first | exact KS.out _ D0 | exact KS.out _ DD1 | exact KS.out _ DD2 | exact KS.out _ DD3 | exact KS.out _ DD4 | exact KS.out _ DD5 | exact KS.out _ DD6)
        (first
          | (go_at_call 22; refine (T3.out _ _ DD5 HP3.out.1 HP3.out.2).mono ?_; rintro e6 w16 ⟨rfl, hb16⟩; have DD6 := DD5.trans (hb16.mono DD5.size))
          | (go_at_call 22; refine (T2.out _ _ DD3 HP2.out.1 HP2.out.2).mono ?_; rintro e4 w14 ⟨rfl, hb14⟩; have DD4 := DD3.trans (hb14.mono DD3.size); clear HP2)
          | (go_at_call 22; refine (T1.out _ _ DD1 HP1.out.1 HP1.out.2).mono ?_; rintro e2 w12 ⟨rfl, hb12⟩; have DD2 := DD1.trans (hb12.mono DD1.size); clear HP1)
          | (go_at_call 19; refine (entry_any (OA.out _ DD4).2.2).mono ?_; rintro e5 w15 ⟨P3, rfl, sp, lp, hb15⟩; have DD5 := DD4.trans (hb15.mono DD4.size); have HP3 := Lib.hid (And.intro (lp.ok (HF.out.2.2.same sp)) sp))
          | (go_at_call 19; refine (entry_any (OA.out _ DD2).2.1).mono ?_; rintro e3 w13 ⟨P2, rfl, sp, lp, hb13⟩; have DD3 := DD2.trans (hb13.mono DD2.size); have HP2 := Lib.hid (And.intro (lp.ok (HF.out.2.1.same sp)) sp))
          | (go_at_call 19; refine (entry_any (OA.out _ D0).1).mono ?_; rintro e1 w11 ⟨P1, rfl, sp, lp, hb11⟩; have DD1 := D0.trans (hb11.mono D0.size); have HP1 := Lib.hid (And.intro (lp.ok (HF.out.1.same sp)) sp)))
      go_wp2
      go_ret
      exact ⟨rfl, BA.out.trans (DD6.mono BA.out.size)⟩
  · subst hx
    obtain rfl : XZ = YZ := tri.2.2.2.2.1 rfl
    by_cases hy : XZ ≤ 0
    · clear tri
      go_wp2_with fail
      go_region_held3 (fun wx => ((wx.cell? ⟨w.heap.size, 0, none⟩ = some a.vr ∧ wx.cell? ⟨w.heap.size, 1, none⟩ = some (.int .i64 a.fam) ∧ wx.cell? ⟨w.heap.size, 2, none⟩ = some a.vq ∧ wx.cell? ⟨w.heap.size, 3, none⟩ = some (.int .i64 a.ts) ∧ wx.cell? ⟨w.heap.size, 4, none⟩ = some (.int .i64 a.seq) ∧ wx.cell? ⟨w.heap.size, 5, none⟩ = some (.int .i64 a.kind) ∧ wx.cell? ⟨w.heap.size, 6, none⟩ = some a.vv) ∧ (wx.cell? ⟨(w.heap.size + 1), 0, none⟩ = some b.vr ∧ wx.cell? ⟨(w.heap.size + 1), 1, none⟩ = some (.int .i64 b.fam) ∧ wx.cell? ⟨(w.heap.size + 1), 2, none⟩ = some b.vq ∧ wx.cell? ⟨(w.heap.size + 1), 3, none⟩ = some (.int .i64 b.ts) ∧ wx.cell? ⟨(w.heap.size + 1), 4, none⟩ = some (.int .i64 b.seq) ∧ wx.cell? ⟨(w.heap.size + 1), 5, none⟩ = some (.int .i64 b.kind) ∧ wx.cell? ⟨(w.heap.size + 1), 6, none⟩ = some b.vv) ∧ (wx.cell? ⟨(w.heap.size + 1 + 1), 0, none⟩ = some c.vr ∧ wx.cell? ⟨(w.heap.size + 1 + 1), 1, none⟩ = some (.int .i64 c.fam) ∧ wx.cell? ⟨(w.heap.size + 1 + 1), 2, none⟩ = some c.vq ∧ wx.cell? ⟨(w.heap.size + 1 + 1), 3, none⟩ = some (.int .i64 c.ts) ∧ wx.cell? ⟨(w.heap.size + 1 + 1), 4, none⟩ = some (.int .i64 c.seq) ∧ wx.cell? ⟨(w.heap.size + 1 + 1), 5, none⟩ = some (.int .i64 c.kind) ∧ wx.cell? ⟨(w.heap.size + 1 + 1), 6, none⟩ = some c.vv)) ∧ ((wx.cell? ⟨qx, 0, none⟩ = some X.vr ∧ wx.cell? ⟨qx, 1, none⟩ = some (.int .i64 X.fam) ∧ wx.cell? ⟨qx, 2, none⟩ = some X.vq ∧ wx.cell? ⟨qx, 3, none⟩ = some (.int .i64 X.ts) ∧ wx.cell? ⟨qx, 4, none⟩ = some (.int .i64 X.seq) ∧ wx.cell? ⟨qx, 5, none⟩ = some (.int .i64 X.kind) ∧ wx.cell? ⟨qx, 6, none⟩ = some X.vv) ∧ (wx.cell? ⟨qy, 0, none⟩ = some Y.vr ∧ wx.cell? ⟨qy, 1, none⟩ = some (.int .i64 Y.fam) ∧ wx.cell? ⟨qy, 2, none⟩ = some Y.vq ∧ wx.cell? ⟨qy, 3, none⟩ = some (.int .i64 Y.ts) ∧ wx.cell? ⟨qy, 4, none⟩ = some (.int .i64 Y.seq) ∧ wx.cell? ⟨qy, 5, none⟩ = some (.int .i64 Y.kind) ∧ wx.cell? ⟨qy, 6, none⟩ = some Y.vv) ∧ (wx.cell? ⟨qz, 0, none⟩ = some Z.vr ∧ wx.cell? ⟨qz, 1, none⟩ = some (.int .i64 Z.fam) ∧ wx.cell? ⟨qz, 2, none⟩ = some Z.vq ∧ wx.cell? ⟨qz, 3, none⟩ = some (.int .i64 Z.ts) ∧ wx.cell? ⟨qz, 4, none⟩ = some (.int .i64 Z.seq) ∧ wx.cell? ⟨qz, 5, none⟩ = some (.int .i64 Z.kind) ∧ wx.cell? ⟨qz, 6, none⟩ = some Z.vv))) (first | exact KS.out _ D0 | exact KS.out _ DD1 | exact KS.out _ DD2 | exact KS.out _ DD3 | exact KS.out _ DD4 | exact KS.out _ DD5 | exact KS.out _ DD6)
        (first
          | (go_at_call 22; refine (T3.out _ _ DD5 HP3.out.1 HP3.out.2).mono ?_; rintro e6 w16 ⟨rfl, hb16⟩; have DD6 := DD5.trans (hb16.mono DD5.size))
          | (go_at_call 22; refine (T2.out _ _ DD3 HP2.out.1 HP2.out.2).mono ?_; rintro e4 w14 ⟨rfl, hb14⟩; have DD4 := DD3.trans (hb14.mono DD3.size); clear HP2)
          | (go_at_call 22; refine (T1.out _ _ DD1 HP1.out.1 HP1.out.2).mono ?_; rintro e2 w12 ⟨rfl, hb12⟩; have DD2 := DD1.trans (hb12.mono DD1.size); clear HP1)
          | (go_at_call 19; refine (entry_any (OA.out _ DD4).2.2).mono ?_; rintro e5 w15 ⟨P3, rfl, sp, lp, hb15⟩; have DD5 := DD4.trans (hb15.mono DD4.size); have HP3 := Lib.hid (And.intro (lp.ok (HF.out.2.2.same sp)) sp))
          | (go_at_call 19; refine (entry_any (OA.out _ DD2).2.1).mono ?_; rintro e3 w13 ⟨P2, rfl, sp, lp, hb13⟩; have DD3 := DD2.trans (hb13.mono DD2.size); have HP2 := Lib.hid (And.intro (lp.ok (HF.out.2.1.same sp)) sp))
          | (go_at_call 19; refine (entry_any (OA.out _ D0).1).mono ?_; rintro e1 w11 ⟨P1, rfl, sp, lp, hb11⟩; have DD1 := D0.trans (hb11.mono D0.size); have HP1 := Lib.hid (And.intro (lp.ok (HF.out.1.same sp)) sp)))
      go_wp2
      go_ret
      exact ⟨rfl, BA.out.trans (DD6.mono BA.out.size)⟩
    · have n3 : 0 < XZ := by omega
      clear tri
      go_wp2_with fail
      go_region_held3 (fun wx => ((wx.cell? ⟨w.heap.size, 0, none⟩ = some a.vr ∧ wx.cell? ⟨w.heap.size, 1, none⟩ = some (.int .i64 a.fam) ∧ wx.cell? ⟨w.heap.size, 2, none⟩ = some a.vq ∧ wx.cell? ⟨w.heap.size, 3, none⟩ = some (.int .i64 a.ts) ∧ wx.cell? ⟨w.heap.size, 4, none⟩ = some (.int .i64 a.seq) ∧ wx.cell? ⟨w.heap.size, 5, none⟩ = some (.int .i64 a.kind) ∧ wx.cell? ⟨w.heap.size, 6, none⟩ = some a.vv) ∧ (wx.cell? ⟨(w.heap.size + 1), 0, none⟩ = some b.vr ∧ wx.cell? ⟨(w.heap.size + 1), 1, none⟩ = some (.int .i64 b.fam) ∧ wx.cell? ⟨(w.heap.size + 1), 2, none⟩ = some b.vq ∧ wx.cell? ⟨(w.heap.size + 1), 3, none⟩ = some (.int .i64 b.ts) ∧ wx.cell? ⟨(w.heap.size + 1), 4, none⟩ = some (.int .i64 b.seq) ∧ wx.cell? ⟨(w.heap.size + 1), 5, none⟩ = some (.int .i64 b.kind) ∧ wx.cell? ⟨(w.heap.size + 1), 6, none⟩ = some b.vv) ∧ (wx.cell? ⟨(w.heap.size + 1 + 1), 0, none⟩ = some c.vr ∧ wx.cell? ⟨(w.heap.size + 1 + 1), 1, none⟩ = some (.int .i64 c.fam) ∧ wx.cell? ⟨(w.heap.size + 1 + 1), 2, none⟩ = some c.vq ∧ wx.cell? ⟨(w.heap.size + 1 + 1), 3, none⟩ = some (.int .i64 c.ts) ∧ wx.cell? ⟨(w.heap.size + 1 + 1), 4, none⟩ = some (.int .i64 c.seq) ∧ wx.cell? ⟨(w.heap.size + 1 + 1), 5, none⟩ = some (.int .i64 c.kind) ∧ wx.cell? ⟨(w.heap.size + 1 + 1), 6, none⟩ = some c.vv)) ∧ ((wx.cell? ⟨qx, 0, none⟩ = some X.vr ∧ wx.cell? ⟨qx, 1, none⟩ = some (.int .i64 X.fam) ∧ wx.cell? ⟨qx, 2, none⟩ = some X.vq ∧ wx.cell? ⟨qx, 3, none⟩ = some (.int .i64 X.ts) ∧ wx.cell? ⟨qx, 4, none⟩ = some (.int .i64 X.seq) ∧ wx.cell? ⟨qx, 5, none⟩ = some (.int .i64 X.kind) ∧ wx.cell? ⟨qx, 6, none⟩ = some X.vv) ∧ (wx.cell? ⟨qy, 0, none⟩ = some Y.vr ∧ wx.cell? ⟨qy, 1, none⟩ = some (.int .i64 Y.fam) ∧ wx.cell? ⟨qy, 2, none⟩ = some Y.vq ∧ wx.cell? ⟨qy, 3, none⟩ = some (.int .i64 Y.ts) ∧ wx.cell? ⟨qy, 4, none⟩ = some (.int .i64 Y.seq) ∧ wx.cell? ⟨qy, 5, none⟩ = some (.int .i64 Y.kind) ∧ wx.cell? ⟨qy, 6, none⟩ = some Y.vv) ∧ (wx.cell? ⟨qz, 0, none⟩ = some Z.vr ∧ wx.cell? ⟨qz, 1, none⟩ = some (.int .i64 Z.fam) ∧ wx.cell? ⟨qz, 2, none⟩ = some Z.vq ∧ wx.cell? ⟨qz, 3, none⟩ = some (.int .i64 Z.ts) ∧ wx.cell? ⟨qz, 4, none⟩ = some (.int .i64 Z.seq) ∧ wx.cell? ⟨qz, 5, none⟩ = some (.int .i64 Z.kind) ∧ wx.cell? ⟨qz, 6, none⟩ = some Z.vv))) (first | exact KS.out _ D0 | exact KS.out _ DD1 | exact KS.out _ DD2 | exact KS.out _ DD3 | exact KS.out _ DD4 | exact KS.out _ DD5 | exact KS.out _ DD6)
        (first
          | (go_at_call 22; refine (T3.out _ _ DD5 HP3.out.1 HP3.out.2).mono ?_; rintro e6 w16 ⟨rfl, hb16⟩; have DD6 := DD5.trans (hb16.mono DD5.size))
          | (go_at_call 22; refine (T2.out _ _ DD3 HP2.out.1 HP2.out.2).mono ?_; rintro e4 w14 ⟨rfl, hb14⟩; have DD4 := DD3.trans (hb14.mono DD3.size); clear HP2)
          | (go_at_call 22; refine (T1.out _ _ DD1 HP1.out.1 HP1.out.2).mono ?_; rintro e2 w12 ⟨rfl, hb12⟩; have DD2 := DD1.trans (hb12.mono DD1.size); clear HP1)
          | (go_at_call 19; refine (entry_any (OA.out _ DD4).2.2).mono ?_; rintro e5 w15 ⟨P3, rfl, sp, lp, hb15⟩; have DD5 := DD4.trans (hb15.mono DD4.size); have HP3 := Lib.hid (And.intro (lp.ok (HF.out.2.2.same sp)) sp))
          | (go_at_call 19; refine (entry_any (OA.out _ DD2).2.1).mono ?_; rintro e3 w13 ⟨P2, rfl, sp, lp, hb13⟩; have DD3 := DD2.trans (hb13.mono DD2.size); have HP2 := Lib.hid (And.intro (lp.ok (HF.out.2.1.same sp)) sp))
          | (go_at_call 19; refine (entry_any (OA.out _ D0).1).mono ?_; rintro e1 w11 ⟨P1, rfl, sp, lp, hb11⟩; have DD1 := D0.trans (hb11.mono D0.size); have HP1 := Lib.hid (And.intro (lp.ok (HF.out.1.same sp)) sp)))
      go_wp2
      go_ret
      exact ⟨rfl, BA.out.trans (DD6.mono BA.out.size)⟩
  · have n1 : (XY == 0) = false := by simp; omega
    have n2 : ¬ (XY ≤ 0) := by omega
    clear tri
    go_wp2_with fail
    go_region_held3 (fun wx => ((wx.cell? ⟨w.heap.size, 0, none⟩ = some a.vr ∧ wx.cell? ⟨w.heap.size, 1, none⟩ = some (.int .i64 a.fam) ∧ wx.cell? ⟨w.heap.size, 2, none⟩ = some a.vq ∧ wx.cell? ⟨w.heap.size, 3, none⟩ = some (.int .i64 a.ts) ∧ wx.cell? ⟨w.heap.size, 4, none⟩ = some (.int .i64 a.seq) ∧ wx.cell? ⟨w.heap.size, 5, none⟩ = some (.int .i64 a.kind) ∧ wx.cell? ⟨w.heap.size, 6, none⟩ = some a.vv) ∧ (wx.cell? ⟨(w.heap.size + 1), 0, none⟩ = some b.vr ∧ wx.cell? ⟨(w.heap.size + 1), 1, none⟩ = some (.int .i64 b.fam) ∧ wx.cell? ⟨(w.heap.size + 1), 2, none⟩ = some b.vq ∧ wx.cell? ⟨(w.heap.size + 1), 3, none⟩ = some (.int .i64 b.ts) ∧ wx.cell? ⟨(w.heap.size + 1), 4, none⟩ = some (.int .i64 b.seq) ∧ wx.cell? ⟨(w.heap.size + 1), 5, none⟩ = some (.int .i64 b.kind) ∧ wx.cell? ⟨(w.heap.size + 1), 6, none⟩ = some b.vv) ∧ (wx.cell? ⟨(w.heap.size + 1 + 1), 0, none⟩ = some c.vr ∧ wx.cell? ⟨(w.heap.size + 1 + 1), 1, none⟩ = some (.int .i64 c.fam) ∧ wx.cell? ⟨(w.heap.size + 1 + 1), 2, none⟩ = some c.vq ∧ wx.cell? ⟨(w.heap.size + 1 + 1), 3, none⟩ = some (.int .i64 c.ts) ∧ wx.cell? ⟨(w.heap.size + 1 + 1), 4, none⟩ = some (.int .i64 c.seq) ∧ wx.cell? ⟨(w.heap.size + 1 + 1), 5, none⟩ = some (.int .i64 c.kind) ∧ wx.cell? ⟨(w.heap.size + 1 + 1), 6, none⟩ = some c.vv)) ∧ ((wx.cell? ⟨qx, 0, none⟩ = some X.vr ∧ wx.cell? ⟨qx, 1, none⟩ = some (.int .i64 X.fam) ∧ wx.cell? ⟨qx, 2, none⟩ = some X.vq ∧ wx.cell? ⟨qx, 3, none⟩ = some (.int .i64 X.ts) ∧ wx.cell? ⟨qx, 4, none⟩ = some (.int .i64 X.seq) ∧ wx.cell? ⟨qx, 5, none⟩ = some (.int .i64 X.kind) ∧ wx.cell? ⟨qx, 6, none⟩ = some X.vv) ∧ (wx.cell? ⟨qy, 0, none⟩ = some Y.vr ∧ wx.cell? ⟨qy, 1, none⟩ = some (.int .i64 Y.fam) ∧ wx.cell? ⟨qy, 2, none⟩ = some Y.vq ∧ wx.cell? ⟨qy, 3, none⟩ = some (.int .i64 Y.ts) ∧ wx.cell? ⟨qy, 4, none⟩ = some (.int .i64 Y.seq) ∧ wx.cell? ⟨qy, 5, none⟩ = some (.int .i64 Y.kind) ∧ wx.cell? ⟨qy, 6, none⟩ = some Y.vv) ∧ (wx.cell? ⟨qz, 0, none⟩ = some Z.vr ∧ wx.cell? ⟨qz, 1, none⟩ = some (.int .i64 Z.fam) ∧ wx.cell? ⟨qz, 2, none⟩ = some Z.vq ∧ wx.cell? ⟨qz, 3, none⟩ = some (.int .i64 Z.ts) ∧ wx.cell? ⟨qz, 4, none⟩ = some (.int .i64 Z.seq) ∧ wx.cell? ⟨qz, 5, none⟩ = some (.int .i64 Z.kind) ∧ wx.cell? ⟨qz, 6, none⟩ = some Z.vv))) (first | exact KS.out _ D0 | exact KS.out _ DD1 | exact KS.out _ DD2 | exact KS.out _ DD3 | exact KS.out _ DD4 | exact KS.out _ DD5 | exact KS.out _ DD6)
      (first
        | (go_at_call 22; refine (T3.out _ _ DD5 HP3.out.1 HP3.out.2).mono ?_; rintro e6 w16 ⟨rfl, hb16⟩; have DD6 := DD5.trans (hb16.mono DD5.size))
        | (go_at_call 22; refine (T2.out _ _ DD3 HP2.out.1 HP2.out.2).mono ?_; rintro e4 w14 ⟨rfl, hb14⟩; have DD4 := DD3.trans (hb14.mono DD3.size); clear HP2)
        | (go_at_call 22; refine (T1.out _ _ DD1 HP1.out.1 HP1.out.2).mono ?_; rintro e2 w12 ⟨rfl, hb12⟩; have DD2 := DD1.trans (hb12.mono DD1.size); clear HP1)
        | (go_at_call 19; refine (entry_any (OA.out _ DD4).2.2).mono ?_; rintro e5 w15 ⟨P3, rfl, sp, lp, hb15⟩; have DD5 := DD4.trans (hb15.mono DD4.size); have HP3 := Lib.hid (And.intro (lp.ok (HF.out.2.2.same sp)) sp))
        | (go_at_call 19; refine (entry_any (OA.out _ DD2).2.1).mono ?_; rintro e3 w13 ⟨P2, rfl, sp, lp, hb13⟩; have DD3 := DD2.trans (hb13.mono DD2.size); have HP2 := Lib.hid (And.intro (lp.ok (HF.out.2.1.same sp)) sp))
        | (go_at_call 19; refine (entry_any (OA.out _ D0).1).mono ?_; rintro e1 w11 ⟨P1, rfl, sp, lp, hb11⟩; have DD1 := D0.trans (hb11.mono D0.size); have HP1 := Lib.hid (And.intro (lp.ok (HF.out.1.same sp)) sp)))
    go_wp2
    go_ret
    exact ⟨rfl, BA.out.trans (DD6.mono BA.out.size)⟩

end Go.Proofs.Ytjcpjpjccoeakaa
