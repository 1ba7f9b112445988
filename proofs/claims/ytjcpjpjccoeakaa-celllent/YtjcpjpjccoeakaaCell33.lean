import Derived.Test.YtjcpjpjccoeakaaCell39
import Derived.Deep.RegionHeld3
namespace Go.Proofs.Ytjcpjpjccoeakaa
open Go.RowKit
set_option linter.unusedVariables false

theorem LaidE.far {w w' : World} {B : Nat} {D : EntD} {o : Option Nat} (h : LaidE w B D) (k : w.grownBy w' o) {b : Nat} (hb : ∀ g, o = some g → b ≤ g) (hl : ∀ g, D.vr.ownBlock = some g ∨ D.vq.ownBlock = some g ∨ D.vv.ownBlock = some g → g < b) : LaidE w' B D :=
  ⟨h.1.far k (fun g hg e => by have := hb g hg; have := hl g (.inl e); omega), h.2.1.far k (fun g hg e => by have := hb g hg; have := hl g (.inr (.inl e)); omega), h.2.2.far k (fun g hg e => by have := hb g hg; have := hl g (.inr (.inr e)); omega)⟩
theorem LaidE.lt {w : World} {B : Nat} {D : EntD} (h : LaidE w B D) : ∀ g, D.vr.ownBlock = some g ∨ D.vq.ownBlock = some g ∨ D.vv.ownBlock = some g → g < w.heap.size := by
  obtain ⟨⟨g1, c1, e1, _, _, o1⟩, ⟨g2, c2, e2, _, _, o2⟩, ⟨g3, c3, e3, _, _, o3⟩⟩ := h
  intro g hg
  rw [e1, e2, e3] at hg
  rcases hg with hg | hg | hg
  · exact (o1.2.lt g hg).2
  · exact (o2.2.lt g hg).2
  · exact (o3.2.lt g hg).2

theorem EBox.far {w w' : World} {g : Nat} {e : EntD} {o : Option Nat} (h : EBox w g e) (k : w.grownBy w' o) (hne : ∀ x, o = some x → g ≠ x) : EBox w' g e := by
  unfold EBox at *
  rw [k.block g (Array.getElem?_eq_some_iff.1 h).1 (fun e => hne g e.symm rfl)]
  exact h
theorem ebox_own {w : World} {B m g x : Nat} {v : Value} {xs : List Nat} {e : EntD} (h : EBox w g e) (o : Own w B v m xs) (hx : v.ownBlock = some x) : g ≠ x := by
  rintro rfl
  rcases o.2.2 with ⟨h1, _⟩ | ⟨g2, cap, cur, h3, _, h5, _⟩
  · rw [h1] at hx; cases hx
  · rw [h3] at hx
    simp only [Value.ownBlock, Option.some.injEq] at hx
    subst hx
    unfold EBox at h
    rw [h5] at h
    simp at h
/-- What the law's middle holds. -/
structure KeysMid (w0 w : World) (q1 q2 : Nat) (D1 D2 : EntD) (K P : List Nat) (b1 b2 b3 b4 b5 : Nat) (vb vw vp vv : Value) (mb mw mp mv : Nat) : Prop where
  e1 : EBox w q1 D1
  e2 : EBox w q2 D2
  l1 : LaidE w w0.heap.size D1
  l2 : LaidE w w0.heap.size D2
  n1 : ∀ g, D1.vr.ownBlock = some g ∨ D1.vq.ownBlock = some g ∨ D1.vv.ownBlock = some g → g < b1
  n2 : ∀ g, D2.vr.ownBlock = some g ∨ D2.vq.ownBlock = some g ∨ D2.vv.ownBlock = some g → g < b1
  ob : Own w b1 vb mb K
  ow : Own w b2 vw mw K
  op : Own w b3 vp mp P
  ov : Own w b4 vv mv P
  ib : ∀ g, vb.ownBlock = some g → b1 ≤ g ∧ g < b2
  iw : ∀ g, vw.ownBlock = some g → b2 ≤ g ∧ g < b3
  ip : ∀ g, vp.ownBlock = some g → b3 ≤ g ∧ g < b4
  iv : ∀ g, vv.ownBlock = some g → b4 ≤ g ∧ g < b5
  bs : w0.heap.size ≤ b1 ∧ b1 ≤ b2 ∧ b2 ≤ b3 ∧ b3 ≤ b4 ∧ b4 ≤ b5 ∧ b5 ≤ w.heap.size
  bel : Below w0.heap.size w0 w
theorem KeysMid.later {w0 w w' : World} {q1 q2 : Nat} {D1 D2 : EntD} {K P : List Nat} {b1 b2 b3 b4 b5 : Nat} {vb vw vp vv : Value} {mb mw mp mv : Nat} (h : KeysMid w0 w q1 q2 D1 D2 K P b1 b2 b3 b4 b5 vb vw vp vv mb mw mp mv) (hb : Below w.heap.size w w') : KeysMid w0 w' q1 q2 D1 D2 K P b1 b2 b3 b4 b5 vb vw vp vv mb mw mp mv :=
  ⟨h.e1.later hb, h.e2.later hb, h.l1.later hb, h.l2.later hb, h.n1, h.n2, h.ob.later hb, h.ow.later hb, h.op.later hb, h.ov.later hb, h.ib, h.iw, h.ip, h.iv, ⟨h.bs.1, h.bs.2.1, h.bs.2.2.1, h.bs.2.2.2.1, h.bs.2.2.2.2.1, Nat.le_trans h.bs.2.2.2.2.2 hb.size⟩, h.bel.trans (hb.mono h.bel.size)⟩

set_option maxRecDepth 100000 in
set_option maxHeartbeats 16000000 in
theorem cellKeys_walk {e : EntD} {w : World} (hok : EntD.Ok w e) :
    Calls Try.prog 8 #[.agg e.cells] w fun q w' => q = .returned (.bool true) ∧ Below w.heap.size w w' := by
  have HE : Hid (EntD.Ok w e) := hok
  have hfine : EntD.Fine e.cut := EntD.cut_fine hok
  obtain ⟨T, hT⟩ : ∃ T, T = e.cut := ⟨_, rfl⟩
  obtain ⟨K, hK⟩ : ∃ K, K = keyA T := ⟨_, rfl⟩
  obtain ⟨P, hP⟩ : ∃ P, P = packA T := ⟨_, rfl⟩
  obtain ⟨C, hC⟩ : ∃ C, C = checkS T := ⟨_, rfl⟩
  rw [← hT] at hfine
  have HF : Hid (EntD.Fine T) := hfine
  have HT : Hid (T = e.cut) := hT
  have HKP : Hid ((Bys K ∧ K.length ≤ 6000) ∧ (Bys P ∧ P.length ≤ 6000)) := by
    unfold Hid; rw [hK, hP]; exact ⟨keyA_ok hfine, packA_ok hfine⟩
  have C1 : Hid (∀ wx D, EntD.Ok wx D → EntD.Same D T → Calls Try.prog 24 #[.agg D.cells] wx fun r w' => r = .returned (.int .i64 (C : Int)) ∧ Below wx.heap.size wx w') := fun wx D h s => by rw [hC, ← check_same s]; exact check_any h
  have C2 : Hid (∀ wx D, EntD.Ok wx D → EntD.Same D T → Calls Try.prog 40 #[.agg D.cells] wx fun r w' => r = .returned (.int .i64 (C : Int)) ∧ Below wx.heap.size wx w') := fun wx D h s => by rw [hC, ← check_same s]; exact refCheck_any h
  have C3 : Hid (∀ wx D, EntD.Ok wx D → EntD.Same D T → Calls Try.prog 23 #[.agg D.cells] wx fun r w' => ∃ a m c, r = .returned (.tuple #[.slice a m c, .int .i64 (C : Int)]) ∧ Own w' wx.heap.size (.slice a m c) m K ∧ Below wx.heap.size wx w') := fun wx D h s => by rw [hC, hK, ← check_same s, ← keyA_same s]; exact key_all h
  have C4 : Hid (∀ wx D, EntD.Ok wx D → EntD.Same D T → Calls Try.prog 41 #[.agg D.cells] wx fun r w' => ∃ a m c, r = .returned (.tuple #[.slice a m c, .int .i64 (C : Int)]) ∧ Own w' wx.heap.size (.slice a m c) m K ∧ Below wx.heap.size wx w') := fun wx D h s => by rw [hC, hK, ← check_same s, ← keyA_same s]; exact refKey_all h
  have C5 : Hid (∀ wx D, EntD.Ok wx D → EntD.Same D T → Calls Try.prog 27 #[.agg D.cells] wx fun r w' => ∃ a m c, r = .returned (.tuple #[.slice a m c, .int .i64 (C : Int)]) ∧ Own w' wx.heap.size (.slice a m c) m P ∧ Below wx.heap.size wx w') := fun wx D h s => by rw [hC, hP, ← check_same s, ← packA_same s]; exact pack_all h
  have C6 : Hid (∀ wx D, EntD.Ok wx D → EntD.Same D T → Calls Try.prog 42 #[.agg D.cells] wx fun r w' => ∃ a m c, r = .returned (.tuple #[.slice a m c, .int .i64 (C : Int)]) ∧ Own w' wx.heap.size (.slice a m c) m P ∧ Below wx.heap.size wx w') := fun wx D h s => by rw [hC, hP, ← check_same s, ← packA_same s]; exact refPack_all h
  have RDK : Hid (∀ (wx : World) (B : Nat) (a : Option Addr) (m c : Nat), Own wx B (.slice a m c) m K → Rd wx (.slice a m c) K) := fun wx B a m c h => h.rd HKP.out.1.1 (by rw [h.1]; have := HKP.out.1.2; omega)
  have RDP : Hid (∀ (wx : World) (B : Nat) (a : Option Addr) (m c : Nat), Own wx B (.slice a m c) m P → Rd wx (.slice a m c) P) := fun wx B a m c h => h.rd HKP.out.2.1 (by rw [h.1]; have := HKP.out.2.2; omega)
  clear hok hfine hT hK hP hC
  have A0 := (Below.refl w.heap.size w).alloc (Nat.le_refl _) (.cells e.cells 35)
  have bxe := Lib.hid (EBox.new w e)
  have HA0 := Lib.hid A0
  clear A0
  simp only [EntD.cells] at bxe HA0 ⊢
  go_enter Try.func8, Try.ntmps8
  go_wp2_with fail
  refine (told_any _).mono ?_
  rintro q w1 ⟨rfl, hb1⟩
  have B1 := Lib.hid (HA0.out.trans (hb1.mono HA0.out.size))
  have bx1 := Lib.hid (bxe.out.later hb1)
  clear hb1 bxe HA0
  go_wp2_with fail
  refine keys_region (e0 := e) bx1.out (HE.out.later B1.out) _ _ _ _ _ (fun q1 q2 D1 D2 w3 x1 x2 _ _ _ l1 l2 s1 s2 hb => ?_)
  rw [← HT.out] at s1 s2
  have B3 := Lib.hid (B1.out.trans (hb.mono B1.out.size))
  have H3 : Hid ((EBox w3 q1 D1 ∧ EBox w3 q2 D2) ∧ LaidE w3 w.heap.size D1 ∧ LaidE w3 w.heap.size D2) := ⟨⟨x1, x2⟩, l1.mono B1.out.size, l2.mono B1.out.size⟩
  have S5 : Hid (EntD.Same D1 T ∧ EntD.Fine D1 ∧ EntD.Same D2 T ∧ EntD.Fine D2) := ⟨s1, HF.out.same s1, s2, HF.out.same s2⟩
  have S12 : Hid (EntD.Same D1 D2) := by
    obtain ⟨h1, h2, h3, h4, h5, h6, h7⟩ := S5.out.1
    obtain ⟨k1, k2, k3, k4, k5, k6, k7⟩ := S5.out.2.2.1
    exact ⟨h1.trans k1.symm, h2.trans k2.symm, h3.trans k3.symm, h4.trans k4.symm, h5.trans k5.symm, h6.trans k6.symm, h7.trans k7.symm⟩
  clear s1 s2 l1 l2 hb x1 x2 B1 bx1
  unfold keysAct
  simp only [EntD.cells]
  have D0 : Below w3.heap.size w3 w3.drew := (Below.refl _ _).drew
  have KS : Hid (∀ wx, Below w3.heap.size w3 wx → (wx.cell? ⟨q1, 0, none⟩ = some D1.vr ∧ wx.cell? ⟨q1, 1, none⟩ = some (.int .i64 D1.fam) ∧ wx.cell? ⟨q1, 2, none⟩ = some D1.vq ∧ wx.cell? ⟨q1, 3, none⟩ = some (.int .i64 D1.ts) ∧ wx.cell? ⟨q1, 4, none⟩ = some (.int .i64 D1.seq) ∧ wx.cell? ⟨q1, 5, none⟩ = some (.int .i64 D1.kind) ∧ wx.cell? ⟨q1, 6, none⟩ = some D1.vv) ∧ (wx.cell? ⟨q2, 0, none⟩ = some D2.vr ∧ wx.cell? ⟨q2, 1, none⟩ = some (.int .i64 D2.fam) ∧ wx.cell? ⟨q2, 2, none⟩ = some D2.vq ∧ wx.cell? ⟨q2, 3, none⟩ = some (.int .i64 D2.ts) ∧ wx.cell? ⟨q2, 4, none⟩ = some (.int .i64 D2.seq) ∧ wx.cell? ⟨q2, 5, none⟩ = some (.int .i64 D2.kind) ∧ wx.cell? ⟨q2, 6, none⟩ = some D2.vv)) := fun wx h => ⟨(H3.out.1.1.later h).cells7, (H3.out.1.2.later h).cells7⟩
  go_wp2_with fail
  go_region_held3 (fun wx => (wx.cell? ⟨q1, 0, none⟩ = some D1.vr ∧ wx.cell? ⟨q1, 1, none⟩ = some (.int .i64 D1.fam) ∧ wx.cell? ⟨q1, 2, none⟩ = some D1.vq ∧ wx.cell? ⟨q1, 3, none⟩ = some (.int .i64 D1.ts) ∧ wx.cell? ⟨q1, 4, none⟩ = some (.int .i64 D1.seq) ∧ wx.cell? ⟨q1, 5, none⟩ = some (.int .i64 D1.kind) ∧ wx.cell? ⟨q1, 6, none⟩ = some D1.vv) ∧ (wx.cell? ⟨q2, 0, none⟩ = some D2.vr ∧ wx.cell? ⟨q2, 1, none⟩ = some (.int .i64 D2.fam) ∧ wx.cell? ⟨q2, 2, none⟩ = some D2.vq ∧ wx.cell? ⟨q2, 3, none⟩ = some (.int .i64 D2.ts) ∧ wx.cell? ⟨q2, 4, none⟩ = some (.int .i64 D2.seq) ∧ wx.cell? ⟨q2, 5, none⟩ = some (.int .i64 D2.kind) ∧ wx.cell? ⟨q2, 6, none⟩ = some D2.vv)) (first | exact KS.out _ D0 | exact KS.out _ DD1 | exact KS.out _ DD2)
    (first
      | (go_at_call 24; refine (C1.out _ _ ((H3.out.2.1.later D0).ok S5.out.2.1) S5.out.1).mono ?_; rintro e4 w4 ⟨rfl, hb4⟩; have DD1 := D0.trans (hb4.mono D0.size))
      | (go_at_call 40; refine (C2.out _ _ ((H3.out.2.2.later DD1).ok S5.out.2.2.2) S5.out.2.2.1).mono ?_; rintro e5 w5 ⟨rfl, hb5⟩; have DD2 := DD1.trans (hb5.mono DD1.size)))
  have hb35 := DD2
  have B5 := Lib.hid (B3.out.trans (hb35.mono B3.out.size))
  have L5 : Hid (LaidE w5 w.heap.size D1 ∧ LaidE w5 w.heap.size D2) := ⟨H3.out.2.1.later hb35, H3.out.2.2.later hb35⟩
  have X5 : Hid (EBox w5 q1 D1 ∧ EBox w5 q2 D2) := ⟨H3.out.1.1.later hb35, H3.out.1.2.later hb35⟩
  clear hb4 hb5 hb35 B3 H3 D0 DD1 DD2 KS
  obtain ⟨c0, c1, c2, c3, c4, c5, c6⟩ := X5.out.1.cells7
  go_wp2_with fail
  refine (C3.out _ _ (L5.out.1.ok S5.out.2.1) S5.out.1).mono ?_
  rintro q w6 ⟨ab, mb, cb, rfl, ob, hb6⟩
  have L6 : Hid (LaidE w6 w.heap.size D1 ∧ LaidE w6 w.heap.size D2) := ⟨L5.out.1.later hb6, L5.out.2.later hb6⟩
  have Q6 : Hid (Own w6 w5.heap.size (.slice ab mb cb) mb K ∧ Below w5.heap.size w5 w6) := ⟨ob, hb6⟩
  have X6 : Hid (EBox w6 q1 D1 ∧ EBox w6 q2 D2) := ⟨X5.out.1.later hb6, X5.out.2.later hb6⟩
  clear ob hb6 X5
  clear c0 c1 c2 c3 c4 c5 c6
  obtain ⟨c0, c1, c2, c3, c4, c5, c6⟩ := X6.out.2.cells7
  go_wp2_with fail
  refine (C4.out _ _ (L6.out.2.ok S5.out.2.2.2) S5.out.2.2.1).mono ?_
  rintro q w7 ⟨aw, mw, cw, rfl, ow, hb7⟩
  have L7 : Hid (LaidE w7 w.heap.size D1 ∧ LaidE w7 w.heap.size D2) := ⟨L6.out.1.later hb7, L6.out.2.later hb7⟩
  have Q7 : Hid (Own w7 w6.heap.size (.slice aw mw cw) mw K ∧ Below w6.heap.size w6 w7) := ⟨ow, hb7⟩
  have X7 : Hid (EBox w7 q1 D1 ∧ EBox w7 q2 D2) := ⟨X6.out.1.later hb7, X6.out.2.later hb7⟩
  clear ow hb7 L6 X6
  clear c0 c1 c2 c3 c4 c5 c6
  obtain ⟨c0, c1, c2, c3, c4, c5, c6⟩ := X7.out.1.cells7
  go_wp2_with fail
  refine (C5.out _ _ (L7.out.1.ok S5.out.2.1) S5.out.1).mono ?_
  rintro q w8 ⟨ap, mp, cp, rfl, op, hb8⟩
  have L8 : Hid (LaidE w8 w.heap.size D1 ∧ LaidE w8 w.heap.size D2) := ⟨L7.out.1.later hb8, L7.out.2.later hb8⟩
  have Q8 : Hid (Own w8 w7.heap.size (.slice ap mp cp) mp P ∧ Below w7.heap.size w7 w8) := ⟨op, hb8⟩
  have X8 : Hid (EBox w8 q1 D1 ∧ EBox w8 q2 D2) := ⟨X7.out.1.later hb8, X7.out.2.later hb8⟩
  clear op hb8 L7 X7
  clear c0 c1 c2 c3 c4 c5 c6
  obtain ⟨c0, c1, c2, c3, c4, c5, c6⟩ := X8.out.2.cells7
  go_wp2_with fail
  refine (C6.out _ _ (L8.out.2.ok S5.out.2.2.2) S5.out.2.2.1).mono ?_
  rintro q w9 ⟨av, mv, cv, rfl, ov, hb9⟩
  have M9 : Hid (KeysMid w w9 q1 q2 D1 D2 K P w5.heap.size w6.heap.size w7.heap.size w8.heap.size w9.heap.size (.slice ab mb cb) (.slice aw mw cw) (.slice ap mp cp) (.slice av mv cv) mb mw mp mv) := by
    obtain ⟨o6, h6⟩ := Q6.out
    obtain ⟨o7, h7⟩ := Q7.out
    obtain ⟨o8, h8⟩ := Q8.out
    refine ⟨X8.out.1.later hb9, X8.out.2.later hb9, L8.out.1.later hb9, L8.out.2.later hb9, L5.out.1.lt, L5.out.2.lt, ((o6.later h7).later h8).later hb9, (o7.later h8).later hb9, o8.later hb9, ov, fun g hg => o6.2.lt g hg, fun g hg => o7.2.lt g hg, fun g hg => o8.2.lt g hg, fun g hg => ov.2.lt g hg, ⟨B5.out.size, h6.size, h7.size, h8.size, hb9.size, Nat.le_refl _⟩, ?_⟩
    have b6 := B5.out.trans (h6.mono B5.out.size)
    have b7 := b6.trans (h7.mono b6.size)
    have b8 := b7.trans (h8.mono b7.size)
    exact b8.trans (hb9.mono b8.size)
  clear ov hb9 L8 L5 Q6 Q7 Q8 B5 X8
  clear c0 c1 c2 c3 c4 c5 c6
  obtain ⟨b1, hb1⟩ : ∃ b, b = w5.heap.size := ⟨_, rfl⟩
  obtain ⟨b2, hb2⟩ : ∃ b, b = w6.heap.size := ⟨_, rfl⟩
  obtain ⟨b3, hb3⟩ : ∃ b, b = w7.heap.size := ⟨_, rfl⟩
  obtain ⟨b4, hb4⟩ : ∃ b, b = w8.heap.size := ⟨_, rfl⟩
  obtain ⟨b5, hb5⟩ : ∃ b, b = w9.heap.size := ⟨_, rfl⟩
  rw [← hb1, ← hb2, ← hb3, ← hb4, ← hb5] at M9
  clear hb1 hb2 hb3 hb4 hb5
  go_wp2_with fail
  refine (alike_same (RDK.out _ _ _ _ _ M9.out.ob) (RDK.out _ _ _ _ _ M9.out.ow)).mono ?_
  rintro q w10 ⟨rfl, hb10⟩
  have M10 := Lib.hid (M9.out.later hb10)
  clear hb10 M9
  go_wp2_with fail
  refine (alike_same (RDP.out _ _ _ _ _ M10.out.op) (RDP.out _ _ _ _ _ M10.out.ov)).mono ?_
  rintro q w11 ⟨rfl, hb11⟩
  have M11 := Lib.hid (M10.out.later hb11)
  clear hb11 M10
  obtain ⟨c0, c1, c2, c3, c4, c5, c6⟩ := M11.out.e1.cells7
  obtain ⟨d0, d1, d2, d3, d4, d5, d6⟩ := M11.out.e2.cells7
  go_wp2_with fail
  refine (stands_any M11.out.l1 (M11.out.l2.ok S5.out.2.2.2) S12.out S5.out.2.1).mono ?_
  rintro q w12 ⟨rfl, hb12⟩
  have M12 := Lib.hid (M11.out.later hb12)
  clear hb12 M11
  clear c0 c1 c2 c3 c4 c5 c6 d0 d1 d2 d3 d4 d5 d6
  go_wp2_with fail
  refine (longer_any (mk := 17) M12.out.ob (by decide) (by rw [M12.out.ob.1]; have := HKP.out.1.2; omega) (by have := M12.out.bs; omega)).mono ?_
  rintro q w13 ⟨G1, rfl, mk1, gr1⟩
  have M13 : Hid ((EBox w13 q1 D1 ∧ EBox w13 q2 D2) ∧ LaidE w13 w.heap.size D1 ∧ LaidE w13 w.heap.size D2 ∧ Own w13 b2 (.slice aw mw cw) mw K ∧ Own w13 b3 (.slice ap mp cp) mp P ∧ Own w13 b4 (.slice av mv cv) mv P ∧ Below w.heap.size w w13) :=
    ⟨⟨M12.out.e1.far gr1 (fun g hg => ebox_own M12.out.e1 M12.out.ob hg), M12.out.e2.far gr1 (fun g hg => ebox_own M12.out.e2 M12.out.ob hg)⟩, M12.out.l1.far gr1 (fun g hg => (M12.out.ib g hg).1) M12.out.n1, M12.out.l2.far gr1 (fun g hg => (M12.out.ib g hg).1) M12.out.n2, M12.out.ow.far gr1 (fun g hg h => by have h1 := M12.out.ib g hg; have h2 := M12.out.iw g h; omega), M12.out.op.far gr1 (fun g hg h => by have h1 := M12.out.ib g hg; have h2 := M12.out.ip g h; have := M12.out.bs; omega), M12.out.ov.far gr1 (fun g hg h => by have h1 := M12.out.ib g hg; have h2 := M12.out.iv g h; have := M12.out.bs; omega), below_grows M12.out.bel M12.out.ob (by have := M12.out.bs; omega) gr1⟩
  have hs13 : w12.heap.size ≤ w13.heap.size := gr1.size
  go_wp2_with fail
  refine (longer_any (mk := 18) M13.out.2.2.2.2.1 (by decide) (by rw [M13.out.2.2.2.2.1.1]; have := HKP.out.2.2; omega) (by have := M12.out.bs; omega)).mono ?_
  rintro q w14 ⟨G2, rfl, mk2, gr2⟩
  have M14 : Hid ((EBox w14 q1 D1 ∧ EBox w14 q2 D2) ∧ LaidE w14 w.heap.size D1 ∧ LaidE w14 w.heap.size D2 ∧ Own w14 b2 (.slice aw mw cw) mw K ∧ Own w14 b4 (.slice av mv cv) mv P ∧ FullL w14 G1 17 ∧ FullL w14 G2 18 ∧ Below w.heap.size w w14) :=
    ⟨⟨M13.out.1.1.far gr2 (fun g hg => ebox_own M13.out.1.1 M13.out.2.2.2.2.1 hg), M13.out.1.2.far gr2 (fun g hg => ebox_own M13.out.1.2 M13.out.2.2.2.2.1 hg)⟩, M13.out.2.1.far gr2 (fun g hg => (M12.out.ip g hg).1) (fun g hg => by have := M12.out.n1 g hg; have := M12.out.bs; omega), M13.out.2.2.1.far gr2 (fun g hg => (M12.out.ip g hg).1) (fun g hg => by have := M12.out.n2 g hg; have := M12.out.bs; omega), M13.out.2.2.2.1.far gr2 (fun g hg h => by have h1 := M12.out.ip g hg; have h2 := M12.out.iw g h; omega), M13.out.2.2.2.2.2.1.far gr2 (fun g hg h => by have h1 := M12.out.ip g hg; have h2 := M12.out.iv g h; omega), mk1.far gr2 (fun g hg => ⟨by have h1 := M12.out.ip g hg; have h3 := M12.out.bs; omega, fun h => by have h1 := M12.out.ip g hg; have h2 := M12.out.ib g h; have h3 := M12.out.bs; omega⟩), mk2.full, below_grows M13.out.2.2.2.2.2.2 M13.out.2.2.2.2.1 (by have := M12.out.bs; omega) gr2⟩
  clear mk1 mk2 gr1 gr2 M12 M13 hs13
  obtain ⟨c0, c1, c2, c3, c4, c5, c6⟩ := M14.out.1.1.cells7
  go_wp2_with fail
  refine (C3.out _ _ (M14.out.2.1.ok S5.out.2.1) S5.out.1).mono ?_
  rintro q w15 ⟨ac, mc, cc, rfl, oc, hb15⟩
  clear c0 c1 c2 c3 c4 c5 c6
  obtain ⟨c0, c1, c2, c3, c4, c5, c6⟩ := (M14.out.1.1.later hb15).cells7
  go_wp2_with fail
  refine (C5.out _ _ ((M14.out.2.1.later hb15).ok S5.out.2.1) S5.out.1).mono ?_
  rintro q w16 ⟨aq, mq, cq, rfl, oq, hb16⟩
  have hb1416 := hb15.trans (hb16.mono hb15.size)
  have X16 : Hid (EBox w16 q1 D1 ∧ EBox w16 q2 D2) := ⟨M14.out.1.1.later hb1416, M14.out.1.2.later hb1416⟩
  have M16 : Hid (LaidE w16 w.heap.size D1 ∧ LaidE w16 w.heap.size D2 ∧ Own w16 b2 (.slice aw mw cw) mw K ∧ Own w16 b4 (.slice av mv cv) mv P ∧ FullL w16 G1 17 ∧ FullL w16 G2 18 ∧ Below w.heap.size w w16 ∧ Own w16 w14.heap.size (.slice ac mc cc) mc K ∧ Own w16 w15.heap.size (.slice aq mq cq) mq P) :=
    ⟨M14.out.2.1.later hb1416, M14.out.2.2.1.later hb1416, M14.out.2.2.2.1.later hb1416, M14.out.2.2.2.2.1.later hb1416, M14.out.2.2.2.2.2.1.later hb1416, M14.out.2.2.2.2.2.2.1.later hb1416, M14.out.2.2.2.2.2.2.2.trans (hb1416.mono M14.out.2.2.2.2.2.2.2.size), oc.later hb16, oq⟩
  clear hb15 hb16 hb1416 oc oq M14
  clear c0 c1 c2 c3 c4 c5 c6
  go_wp2_with fail
  refine (alike_same (RDK.out _ _ _ _ _ M16.out.2.2.2.2.2.2.2.1) (RDK.out _ _ _ _ _ M16.out.2.2.1)).mono ?_
  rintro q w17 ⟨rfl, hb17⟩
  go_wp2_with fail
  refine (alike_same ((RDP.out _ _ _ _ _ M16.out.2.2.2.2.2.2.2.2).later hb17) ((RDP.out _ _ _ _ _ M16.out.2.2.2.1).later hb17)).mono ?_
  rintro q w18 ⟨rfl, hb18⟩
  have hb1618 := hb17.trans (hb18.mono hb17.size)
  clear hb17 hb18
  go_wp2_with fail
  refine (told_any _).mono ?_
  rintro q w19 ⟨rfl, hb19⟩
  have hb1619 := hb1618.trans (hb19.mono hb1618.size)
  clear hb19 hb1618
  go_wp2_with fail
  refine (full_any (M16.out.2.2.2.2.1.later hb1619)).mono ?_
  rintro q w20 ⟨rfl, rfl⟩
  go_wp2_with fail
  refine (full_any (M16.out.2.2.2.2.2.1.later hb1619)).mono ?_
  rintro q w20 ⟨rfl, rfl⟩
  obtain ⟨c0, c1, c2, c3, c4, c5, c6⟩ := (X16.out.1.later hb1619).cells7
  obtain ⟨d0, d1, d2, d3, d4, d5, d6⟩ := (X16.out.2.later hb1619).cells7
  go_wp2_with fail
  refine (stands_any (M16.out.1.later hb1619) ((M16.out.2.1.later hb1619).ok S5.out.2.2.2) S12.out S5.out.2.1).mono ?_
  rintro q w21 ⟨rfl, hb21⟩
  go_wp2
  go_ret
  have b1 := M16.out.2.2.2.2.2.2.1
  have b2 := b1.trans (hb1619.mono b1.size)
  exact ⟨rfl, b2.trans (hb21.mono b2.size)⟩

end Go.Proofs.Ytjcpjpjccoeakaa
