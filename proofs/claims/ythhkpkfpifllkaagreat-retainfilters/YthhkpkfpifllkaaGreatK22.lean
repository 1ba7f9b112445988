import Derived.Test.YthhkpkfpifllkaaGreatK21
namespace Go.Proofs.YthhkpkfpifllkaaGreat
open Go.RowKit Go.Maps
set_option linter.unusedVariables false

structure Rn (B : Nat) (w : World) (g : Nat) (l : List EntD) (t : Nat) (ys : List EntD) (us : List Value) (vL vW u1 u2 u3 : Value) : Prop where
  box : RBx w g vL vW
  gB : B ≤ g
  rL : w.ownsRow B 84 7 vL ys.length (evals ys)
  rW : w.ownsRow B 82 1 vW (us.length + 3) (us ++ [u1, u2, u3])
  ul : us.length = 3 * t
  el : ∀ i, i < t → ∃ x y u1 u2 u3, l[i]? = some x ∧ ys[i]? = some y ∧ us[3 * i]? = some u1 ∧ us[3 * i + 1]? = some u2 ∧ us[3 * i + 2]? = some u3 ∧ Re w B x y u1 u2 u3
  ap : (us ++ [u1, u2, u3]).Pairwise Apt
theorem Rn.later {B : Nat} {w w' : World} {g t : Nat} {l ys : List EntD} {us : List Value} {vL vW u1 u2 u3 : Value} (h : Rn B w g l t ys us vL vW u1 u2 u3) (k : ∀ i, i < w.heap.size → w'.heap[i]? = w.heap[i]?) : Rn B w' g l t ys us vL vW u1 u2 u3 :=
  ⟨(k g h.box.tyd.lt).trans h.box, h.gB, row_same h.rL (fun g hg => k g (h.rL.lt g hg).2), row_same h.rW (fun g hg => k g (h.rW.lt g hg).2), h.ul, fun i hi => by
    obtain ⟨x, y, u1, u2, u3, a1, a2, a3, a4, a5, a6⟩ := h.el i hi
    exact ⟨x, y, u1, u2, u3, a1, a2, a3, a4, a5, a6.keep (fun g hg => k g hg.lt)⟩, h.ap⟩
set_option maxRecDepth 100000 in
set_option maxHeartbeats 16000000 in
theorem laid_any {W : World} {a : Option Addr} {cap : Nat} {l : List EntD} (hl : RdL3 W a cap l) (hn : l.length ≤ 1353245080300) (hs : ∀ x ∈ l, ShrtW x) :
    Calls Tryz.prog 13 #[.slice a l.length cap] W fun r W' => ∃ (g : Nat) (ys : List EntD) (us : List Value) (vL vW : Value), r = .returned (.pointer (some ⟨g, 0, none⟩)) ∧ Below W.heap.size W W' ∧ ys.length = l.length ∧ Rm W.heap.size W' g l l.length (ys ++ [endE]) us vL vW := by
  obtain ⟨N, hN⟩ : ∃ N, N = l.length := ⟨_, rfl⟩
  obtain ⟨X, hX⟩ : ∃ X, X = W.alloc (.cells #[.slice none 0 0, .slice none 0 0] 37) := ⟨_, rfl⟩
  have AX : Below W.heap.size W X := by rw [hX]; exact (Below.refl _ _).alloc (Nat.le_refl _) _
  have R0 : Rm W.heap.size X W.heap.size l 0 [] [] (.slice none 0 0) (.slice none 0 0) := ⟨by rw [hX]; exact heap_new W _, Nat.le_refl _, (Rw.nil X W.heap.size (fun _ => True)).row, World.ownsRow_nil _ _ _ _, rfl, Nat.le_refl _, (fun i hi => by omega), List.Pairwise.nil⟩
  have HL : Hid (∀ Z, Below W.heap.size W Z → RdL3 Z a cap l) := fun Z b => hl.later b
  have HWi : Hid (∀ (v : Value) (bs : List Nat), Rd W v bs → bs.length ≤ 140737488351232 → ∀ Z, Below W.heap.size W Z → Calls Tryz.prog 46 #[v] Z fun e w' => ∃ a m c, e = .returned (.slice a m c) ∧ Own w' Z.heap.size (.slice a m c) m (bs ++ wideL) ∧ Below Z.heap.size Z w') := fun v bs h hl Z b => wide3_any (h.later b) hl
  have HOk := Lib.hid (fun x (hx : x ∈ l) => hl.ok x hx)
  have HSh := Lib.hid hs
  have hc := hl.cap
  rw [← hN] at hn hc ⊢
  have HR0 := Lib.hid R0
  have HA := Lib.hid AX
  have HX := Lib.hid hX
  have HN := Lib.hid hN
  clear hl hs hN AX R0 hX
  go_enter Tryz.func13, Tryz.ntmps13
  go_upto_region 2 with fail
  rw [← HX.out]
  clear HX
  go_wp2
  go_loopw [4, 5, 6, 7, 8] (fun i _ _ _ _ wr => ∃ (t : Nat) (ys : List EntD) (us : List Value) (vL vW : Value), t ≤ N ∧ i = .int .i64 (t : Int) ∧ Hid (Rm W.heap.size wr W.heap.size l t ys us vL vW) ∧ Hid (ys.length = t) ∧ Hid (Below W.heap.size W wr)) (fun i _ _ _ _ _ => N - (intOf i).toNat)
  case atStart => exact ⟨0, [], [], _, _, Nat.zero_le _, rfl, HR0, rfl, HA⟩
  case round =>
    clear HR0 HA
    obtain ⟨t, ys, us, vL, vW, ht, rfl, HRm, HYl, HBw⟩ := hrel
    have t0 : (0 : Int) ≤ (t : Int) := by omega
    obtain ⟨aL, cL, eL⟩ := rows_form3 HRm.out.rL
    obtain ⟨aW, cW, eW⟩ := row_formW HRm.out.rW
    rw [HYl.out] at eL
    rw [HRm.out.ul] at eW
    subst eL eW
    by_cases hlt : t < N
    · have hlt2 : (t : Int) < (N : Int) := by omega
      obtain ⟨x, hx⟩ : ∃ x, l[t]? = some x := ⟨l[t]'(by rw [← HN.out]; exact hlt), List.getElem?_eq_getElem _⟩
      have xm := List.mem_of_getElem? hx
      have hok := HOk.out x xm
      have hsh := HSh.out x xm
      have HXx := Lib.hid hx
      obtain ⟨bl, ol, rfl⟩ : ∃ b off, a = some ⟨b, off, none⟩ := by
        rcases (HL.out _ (Below.refl _ _)).at_ with h0 | ⟨b, off, q, _⟩
        · rw [h0] at hx; simp at hx
        · exact ⟨b, off, q⟩
      obtain ⟨xr, xf, xq, xt, xs, xk, xv, row, qual, val⟩ := x
      obtain ⟨_, ar, cr, er, -⟩ := id hok.1
      obtain ⟨_, aq, cq, eq, -⟩ := id hok.2.1
      obtain ⟨_, av, cv, ev, -⟩ := id hok.2.2
      simp only at er eq ev
      subst er eq ev
      obtain ⟨n1, hn1⟩ : ∃ n, n = row.length := ⟨_, rfl⟩
      obtain ⟨n2, hn2⟩ : ∃ n, n = qual.length := ⟨_, rfl⟩
      obtain ⟨n3, hn3⟩ : ∃ n, n = val.length := ⟨_, rfl⟩
      have HC : Hid (∀ Z, Below W.heap.size W Z → Z.cell? ⟨bl, ol + t * 7, none⟩ = some (.slice ar n1 cr) ∧ Z.cell? ⟨bl, ol + t * 7 + 1, none⟩ = some (.int .i64 xf) ∧ Z.cell? ⟨bl, ol + t * 7 + 2, none⟩ = some (.slice aq n2 cq) ∧ Z.cell? ⟨bl, ol + t * 7 + 3, none⟩ = some (.int .i64 xt) ∧ Z.cell? ⟨bl, ol + t * 7 + 4, none⟩ = some (.int .i64 xs) ∧ Z.cell? ⟨bl, ol + t * 7 + 5, none⟩ = some (.int .i64 xk) ∧ Z.cell? ⟨bl, ol + t * 7 + 6, none⟩ = some (.slice av n3 cv)) := fun Z b => by
        have cx := (HL.out Z b).cells (Below.refl _ _) hx
        rw [hn1, hn2, hn3]
        exact ⟨by have := cx 0 _ rfl; simpa using this, cx 1 _ rfl, cx 2 _ rfl, cx 3 _ rfl, cx 4 _ rfl, cx 5 _ rfl, cx 6 _ rfl⟩
      have HW1 := Lib.hid (HWi.out _ _ hok.1 hsh.1)
      have HW2 := Lib.hid (HWi.out _ _ hok.2.1 hsh.2.1)
      have HW3 := Lib.hid (HWi.out _ _ hok.2.2 hsh.2.2)
      simp only at HW1 HW2 HW3
      rw [← hn1] at HW1
      rw [← hn2] at HW2
      rw [← hn3] at HW3
      have HSh1 : Hid (n1 ≤ 140737488351232 ∧ n2 ≤ 140737488351232 ∧ n3 ≤ 140737488351232) := by rw [hn1, hn2, hn3]; exact hsh
      have HNn := Lib.hid (And.intro hn1 (And.intro hn2 hn3))
      clear hok hsh xm hx hn1 hn2 hn3
      obtain ⟨x0, x1, x2, x3, x4, x5, x6⟩ := HC.out _ HBw.out
      go_wp2_with fail
      refine Calls.mono (HW1.out _ HBw.out) ?_
      rintro z w1 ⟨a1, m1, c1, rfl, o1, b1⟩
      have B1 := Lib.hid (HBw.out.trans (b1.mono HBw.out.size))
      have O1 := Lib.hid o1
      have Q1 := Lib.hid b1
      clear o1 b1 x0 x1 x2 x3 x4 x5 x6
      obtain ⟨x0, x1, x2, x3, x4, x5, x6⟩ := HC.out _ B1.out
      go_wp2_with fail
      refine Calls.mono (HW2.out _ B1.out) ?_
      rintro z w2 ⟨a2, m2, c2, rfl, o2, b2⟩
      have B2 := Lib.hid (B1.out.trans (b2.mono B1.out.size))
      have O2 := Lib.hid o2
      have Q2 := Lib.hid b2
      clear o2 b2 x0 x1 x2 x3 x4 x5 x6
      obtain ⟨x0, x1, x2, x3, x4, x5, x6⟩ := HC.out _ B2.out
      go_wp2_with fail
      refine Calls.mono (HW3.out _ B2.out) ?_
      rintro z w3 ⟨a3, m3, c3, rfl, o3, b3⟩
      have B3 := Lib.hid (B2.out.trans (b3.mono B2.out.size))
      have O3' := Lib.hid o3
      have Q3 := Lib.hid b3
      clear o3 b3 x0 x1 x2 x3 x4 x5 x6
      obtain ⟨g1, rfl, hm1, hc1⟩ := wide_form O1.out
      obtain ⟨g2, rfl, hm2, hc2⟩ := wide_form O2.out
      obtain ⟨g3, rfl, hm3, hc3⟩ := wide_form O3'.out
      have HQ : Hid (Below wr.heap.size wr w3) := (Q1.out.trans (Q2.out.mono Q1.out.size)).trans (Q3.out.mono (Nat.le_trans Q1.out.size Q2.out.size))
      have HR3 : Hid (Rm W.heap.size w3 W.heap.size l t ys us (.slice aL t cL) (.slice aW (3 * t) cW)) := HRm.out.later (fun i hi => HQ.out.block i hi)
      have HO : Hid (Own w3 W.heap.size (.slice (some ⟨g1, 0, none⟩) m1 c1) m1 (row ++ wideL) ∧ Own w3 W.heap.size (.slice (some ⟨g2, 0, none⟩) m2 c2) m2 (qual ++ wideL) ∧ Own w3 W.heap.size (.slice (some ⟨g3, 0, none⟩) m3 c3) m3 (val ++ wideL)) :=
        ⟨((O1.out.later Q2.out).later Q3.out).mono HBw.out.size, (O2.out.later Q3.out).mono B1.out.size, O3'.out.mono B2.out.size⟩
      have HAp : Hid ((us ++ [(.slice (some ⟨g1, 0, none⟩) m1 c1 : Value), .slice (some ⟨g2, 0, none⟩) m2 c2, .slice (some ⟨g3, 0, none⟩) m3 c3]).Pairwise Apt) := ap3 (s0 := wr.heap.size) (s1 := w1.heap.size) (s2 := w2.heap.size) HRm.out.ap HRm.out.ulow (fun g hg => O1.out.2.lt g hg) (fun g hg => O2.out.2.lt g hg) (fun g hg => (O3'.out.2.lt g hg).1) Q1.out.size Q2.out.size
      have HM : Hid (m1 = row.length + 5 ∧ m2 = qual.length + 5 ∧ m3 = val.length + 5) := ⟨hm1, hm2, hm3⟩
      have nc1 : (n1 : Int) ≤ (c1 : Int) := by have := HNn.out.1; omega
      have nc2 : (n2 : Int) ≤ (c2 : Int) := by have := HNn.out.2.1; omega
      have nc3 : (n3 : Int) ≤ (c3 : Int) := by have := HNn.out.2.2; omega
      have p1 : (0 : Int) ≤ (n1 : Int) := by omega
      have p2 : (0 : Int) ≤ (n2 : Int) := by omega
      have p3 : (0 : Int) ≤ (n3 : Int) := by omega
      have b0 := HR3.out.box.c0
      have b1 := HR3.out.box.c1
      have bf := HR3.out.box.fz 1
      have HUl := Lib.hid HRm.out.ul
      have HrW := Lib.hid HR3.out.rW
      clear hm1 hm2 hm3 hc1 hc2 hc3 O1 O2 O3' Q1 Q2 Q3 HW1 HW2 HW3
      go_wp2_with (at_builtin; refine wpl_append_w3 rfl _ _ rfl W.heap.size (.slice aW (3 * t) cW) us rfl HrW.out (.slice (some ⟨g1, 0, none⟩) m1 c1) (.slice (some ⟨g2, 0, none⟩) m2 c2) (.slice (some ⟨g3, 0, none⟩) m3 c3) rfl rfl rfl rfl (by rw [HUl.out]; omega) B3.out.size ?_)
      intro aW' cW' w4 rW4 gr4
      have HbW : Hid (RBx w4 W.heap.size (.slice aL t cL) (.slice aW (3 * t) cW)) := HR3.out.boxW gr4
      have HP4 := Lib.hid (HR3.out.putW gr4 rW4)
      have HG4 := Lib.hid gr4
      have q0 := HbW.out.c0
      have q1 := HbW.out.c1
      have qf := HbW.out.fz 1
      clear gr4 rW4 b0 b1 bf
      go_upto_region 9 with fail
      obtain ⟨X4, hX4⟩ : ∃ X4 : World, X4 = w4.setCell ⟨W.heap.size, 1, none⟩ (.slice aW' (us.length + 3) cW') := ⟨_, rfl⟩
      have HF4 : Hid (X4.os = w4.os ∧ X4.tape = w4.tape ∧ X4.output = w4.output ∧ X4.heap.size = w4.heap.size) := by unfold Hid; rw [hX4]; exact ⟨rfl, rfl, rfl, World.size_setCell _ _ _⟩
      rw [← hX4] at HP4 ⊢
      have HB4 : Hid (Below W.heap.size W X4) := by
        obtain ⟨f1, f2, f3, f4⟩ := HF4.out
        exact below_of_heap B3.out B3.out.size (f1.trans HG4.out.os) (f2.trans HG4.out.tape) (f3.trans HG4.out.output) (by rw [f4]; exact HG4.out.size) HP4.out.2.2.2.2
      have HO4 : Hid (Wd X4 W.heap.size (.slice (some ⟨g1, 0, none⟩) n1 c1) (.slice (some ⟨g1, 0, none⟩) m1 c1) row ∧ Wd X4 W.heap.size (.slice (some ⟨g2, 0, none⟩) n2 c2) (.slice (some ⟨g2, 0, none⟩) m2 c2) qual ∧ Wd X4 W.heap.size (.slice (some ⟨g3, 0, none⟩) n3 c3) (.slice (some ⟨g3, 0, none⟩) m3 c3) val) := by
        obtain ⟨e1, e2, e3⟩ := HM.out
        obtain ⟨f1, f2, f3⟩ := HNn.out
        obtain ⟨k1, k2, k3⟩ := HO.out
        have kk := HP4.out.2.2.2.1
        refine ⟨⟨⟨g1, c1, by rw [f1], by rw [e1]⟩, ?_⟩, ⟨⟨g2, c2, by rw [f2], by rw [e2]⟩, ?_⟩, ⟨⟨g3, c3, by rw [f3], by rw [e3]⟩, ?_⟩⟩
        · rw [← e1]; exact own_same k1 (fun g hg => kk g (row_tyd k1.2 hg))
        · rw [← e2]; exact own_same k2 (fun g hg => kk g (row_tyd k2.2 hg))
        · rw [← e3]; exact own_same k3 (fun g hg => kk g (row_tyd k3.2 hg))
      have HRn : Hid (Rn W.heap.size X4 W.heap.size l t ys us (.slice aL t cL) (.slice aW' (us.length + 3) cW') (.slice (some ⟨g1, 0, none⟩) m1 c1) (.slice (some ⟨g2, 0, none⟩) m2 c2) (.slice (some ⟨g3, 0, none⟩) m3 c3)) := by
        refine ⟨HP4.out.1, Nat.le_refl _, HP4.out.2.1, HP4.out.2.2.1, HUl.out, fun i hi => ?_, HAp.out⟩
        obtain ⟨x, y, u1, u2, u3, k1, k2, k3, k4, k5, k6⟩ := HR3.out.el i hi
        exact ⟨x, y, u1, u2, u3, k1, k2, k3, k4, k5, k6.keep HP4.out.2.2.2.1⟩
      clear hX4 HP4 HG4 HbW q0 q1 qf HO HM HR3 HQ HrW
      obtain ⟨x0, x1, x2, x3, x4, x5, x6⟩ := HC.out _ HB4.out
      obtain ⟨X5, hX5, A5, hb5, hs5⟩ := box1 X4 ⟨.slice ar n1 cr, xf, .slice aq n2 cq, xt, xs, xk, .slice av n3 cv, row, qual, val⟩
      unfold EntD.cells at hX5
      have HX5 := Lib.hid hX5
      obtain ⟨qb, hqb⟩ : ∃ qb, qb = X4.heap.size := ⟨_, rfl⟩
      have HE5 : Hid (EBox X5 qb ⟨.slice ar n1 cr, xf, .slice aq n2 cq, xt, xs, xk, .slice av n3 cv, row, qual, val⟩) := by rw [hqb]; exact hb5 X5 (Below.refl _ _)
      have HA5 := Lib.hid A5
      have HQb := Lib.hid hqb
      have hqb2 := hqb.symm
      have HQB : Hid (W.heap.size ≤ qb ∧ X5.heap.size = qb + 1) := ⟨by rw [hqb]; exact HB4.out.size, by rw [hs5, hqb]⟩
      clear hX5 A5 hb5 hs5 hqb
      go_upto_region 10 with fail
      rw [← HX5.out]
      (try rw [hqb2])
      clear HX5 hqb2 x0 x1 x2 x3 x4 x5 x6
      have HB5 : Hid (Below W.heap.size W X5) := HB4.out.trans (HA5.out.mono HB4.out.size)
      obtain ⟨x0, x1, x2, x3, x4, x5, x6⟩ := HC.out _ HB5.out
      have y0 := HE5.out.vr
      have g0 := HE5.out.fzA 0
      go_upto_region 11 with fail
      obtain ⟨X6, hX6⟩ : ∃ X6 : World, X6 = X5.setCell ⟨qb, 0, none⟩ (.slice (some ⟨g1, 0, none⟩) n1 c1) := ⟨_, rfl⟩
      have HE6 : Hid (EBox X6 qb ⟨.slice (some ⟨g1, 0, none⟩) n1 c1, xf, .slice aq n2 cq, xt, xs, xk, .slice av n3 cv, row, qual, val⟩) := by unfold Hid; rw [hX6]; exact HE5.out.set0 _ row
      have HB6 : Hid (Below W.heap.size W X6) := by unfold Hid; rw [hX6]; exact HB5.out.setCell (p := ⟨qb, 0, none⟩) HQB.out.1 _
      have HK6 : Hid (X6.heap.size = X5.heap.size ∧ ∀ i, i ≠ qb → X6.heap[i]? = X5.heap[i]?) := by unfold Hid; rw [hX6]; exact ⟨World.size_setCell _ _ _, fun i hi => Below.heap_setCell _ _ _ _ hi⟩
      rw [← hX6]
      clear hX6 x0 x1 x2 x3 x4 x5 x6 y0 g0
      obtain ⟨x0, x1, x2, x3, x4, x5, x6⟩ := HC.out _ HB6.out
      have y2 := HE6.out.vq
      have g2f := HE6.out.fzA 2
      go_upto_region 12 with fail
      obtain ⟨X7, hX7⟩ : ∃ X7 : World, X7 = X6.setCell ⟨qb, 2, none⟩ (.slice (some ⟨g2, 0, none⟩) n2 c2) := ⟨_, rfl⟩
      have HE7 : Hid (EBox X7 qb ⟨.slice (some ⟨g1, 0, none⟩) n1 c1, xf, .slice (some ⟨g2, 0, none⟩) n2 c2, xt, xs, xk, .slice av n3 cv, row, qual, val⟩) := by unfold Hid; rw [hX7]; exact HE6.out.set2 _ qual
      have HB7 : Hid (Below W.heap.size W X7) := by unfold Hid; rw [hX7]; exact HB6.out.setCell (p := ⟨qb, 2, none⟩) HQB.out.1 _
      have HK7 : Hid (X7.heap.size = X6.heap.size ∧ ∀ i, i ≠ qb → X7.heap[i]? = X6.heap[i]?) := by unfold Hid; rw [hX7]; exact ⟨World.size_setCell _ _ _, fun i hi => Below.heap_setCell _ _ _ _ hi⟩
      rw [← hX7]
      clear hX7 x0 x1 x2 x3 x4 x5 x6 y2 g2f
      obtain ⟨x0, x1, x2, x3, x4, x5, x6⟩ := HC.out _ HB7.out
      have y6 := HE7.out.vv
      have g6f := HE7.out.fzA 6
      go_upto_region 13 with fail
      obtain ⟨X8, hX8⟩ : ∃ X8 : World, X8 = X7.setCell ⟨qb, 6, none⟩ (.slice (some ⟨g3, 0, none⟩) n3 c3) := ⟨_, rfl⟩
      have HE8 : Hid (EBox X8 qb (⟨.slice (some ⟨g1, 0, none⟩) n1 c1, xf, .slice (some ⟨g2, 0, none⟩) n2 c2, xt, xs, xk, .slice (some ⟨g3, 0, none⟩) n3 c3, row, qual, val⟩ : EntD)) := by unfold Hid; rw [hX8]; exact HE7.out.set6 _ val
      have HB8 : Hid (Below W.heap.size W X8) := by unfold Hid; rw [hX8]; exact HB7.out.setCell (p := ⟨qb, 6, none⟩) HQB.out.1 _
      have HK8 : Hid (X8.heap.size = X7.heap.size ∧ ∀ i, i ≠ qb → X8.heap[i]? = X7.heap[i]?) := by unfold Hid; rw [hX8]; exact ⟨World.size_setCell _ _ _, fun i hi => Below.heap_setCell _ _ _ _ hi⟩
      rw [← hX8]
      clear hX8 x0 x1 x2 x3 x4 x5 x6 y6 g6f
      have HKe : Hid (∀ i, i < X4.heap.size → X8.heap[i]? = X4.heap[i]?) := fun i hi => by
        have hq : i ≠ qb := by have := HQb.out; omega
        rw [HK8.out.2 i hq, HK7.out.2 i hq, HK6.out.2 i hq]
        exact HA5.out.block i hi
      have HR8 := Lib.hid (HRn.out.later HKe.out)
      have HRe : Hid (Re X8 W.heap.size ⟨.slice ar n1 cr, xf, .slice aq n2 cq, xt, xs, xk, .slice av n3 cv, row, qual, val⟩ (⟨.slice (some ⟨g1, 0, none⟩) n1 c1, xf, .slice (some ⟨g2, 0, none⟩) n2 c2, xt, xs, xk, .slice (some ⟨g3, 0, none⟩) n3 c3, row, qual, val⟩ : EntD) (.slice (some ⟨g1, 0, none⟩) m1 c1) (.slice (some ⟨g2, 0, none⟩) m2 c2) (.slice (some ⟨g3, 0, none⟩) m3 c3)) := by
        obtain ⟨k1, k2, k3⟩ := HO4.out
        exact ⟨rfl, k1.keep (fun g hg => HKe.out g (row_tyd k1.own.2 hg).lt), k2.keep (fun g hg => HKe.out g (row_tyd k2.own.2 hg).lt), k3.keep (fun g hg => HKe.out g (row_tyd k3.own.2 hg).lt)⟩
      have HS : Hid (∀ Z, Below X8.heap.size X8 Z → Z.cell? ⟨W.heap.size, 0, none⟩ = some (.slice aL t cL) ∧ Z.cell? ⟨qb, 0, none⟩ = some (.slice (some ⟨g1, 0, none⟩) n1 c1) ∧ Z.cell? ⟨qb, 1, none⟩ = some (.int .i64 xf) ∧ Z.cell? ⟨qb, 2, none⟩ = some (.slice (some ⟨g2, 0, none⟩) n2 c2) ∧ Z.cell? ⟨qb, 3, none⟩ = some (.int .i64 xt) ∧ Z.cell? ⟨qb, 4, none⟩ = some (.int .i64 xs) ∧ Z.cell? ⟨qb, 5, none⟩ = some (.int .i64 xk) ∧ Z.cell? ⟨qb, 6, none⟩ = some (.slice (some ⟨g3, 0, none⟩) n3 c3)) := fun Z b => ⟨RBx.c0 (((b.block _ HR8.out.box.tyd.lt).trans HR8.out.box : RBx Z W.heap.size _ _)), (HE8.out.later b).cells7⟩
      have HYl2 := Lib.hid HYl.out
      have HlL : Hid (∀ k, (Value.slice aL t cL).ownBlock = some k → k < qb) := fun k hk => by have := (HRn.out.rL.lt k hk).2; have := HQb.out; omega
      clear HE5 HE6 HE7 HK6 HK7 HK8 HB4 HB5 HB6 HB7 HO4 HRn HKe HA5 HC
      have D0 : Below X8.heap.size X8 X8.drew := (Below.refl _ _).drew
      have hS := HS.out _ D0
      refine wp_region_noPanic ?_
      refine wp_region_anyE (S := fun Z => Z.cell? ⟨W.heap.size, 0, none⟩ = some (.slice aL t cL) ∧ Z.cell? ⟨qb, 0, none⟩ = some (.slice (some ⟨g1, 0, none⟩) n1 c1) ∧ Z.cell? ⟨qb, 1, none⟩ = some (.int .i64 xf) ∧ Z.cell? ⟨qb, 2, none⟩ = some (.slice (some ⟨g2, 0, none⟩) n2 c2) ∧ Z.cell? ⟨qb, 3, none⟩ = some (.int .i64 xt) ∧ Z.cell? ⟨qb, 4, none⟩ = some (.int .i64 xs) ∧ Z.cell? ⟨qb, 5, none⟩ = some (.int .i64 xk) ∧ Z.cell? ⟨qb, 6, none⟩ = some (.slice (some ⟨g3, 0, none⟩) n3 c3)) (E := fun j => decide (j < 10)) (by kernel_rfl) ?_
      refine anyE_gen (fun A0 hA0 => ?_)
      have s0 : A0.tmps.size = 99 := by rw [hA0]; rfl
      have t3 : A0.tmps[3]?.getD undef = (.pointer (some ⟨W.heap.size, 0, none⟩)) := by rw [hA0]; rfl
      have t8 : A0.tmps[8]?.getD undef = (.pointer (some ⟨qb, 0, none⟩)) := by rw [hA0]; rfl
      refine AnyE.take (i := 0) (.pointer (some ⟨W.heap.size, 0, none⟩)) rfl (by kernel_rfl) (by kernel_rfl) (by kernel_rfl) (by kernel_rfl) (fun _ _ _ h => h) (.inl ⟨by rfl, fun wq hq => op_move t3⟩) hS ?_
      refine anyE_gen (fun A1 hA1 => ?_)
      have s1 : A1.tmps.size = 99 := by rw [hA1]; exact put_sz s0
      have u1_3 : A1.tmps[3]?.getD undef = (.pointer (some ⟨W.heap.size, 0, none⟩)) := by rw [hA1]; exact put_ne (by decide) t3
      have u1_8 : A1.tmps[8]?.getD undef = (.pointer (some ⟨qb, 0, none⟩)) := by rw [hA1]; exact put_ne (by decide) t8
      have u1_78 : A1.tmps[78]?.getD undef = (.pointer (some ⟨W.heap.size, 0, none⟩)) := by rw [hA1]; exact put_eq s0 (by decide)
      refine AnyE.take (i := 1) (.pointer (some ⟨W.heap.size, 0, none⟩)) rfl (by kernel_rfl) (by kernel_rfl) (by kernel_rfl) (by kernel_rfl) (fun _ _ _ h => h) (.inl ⟨by rfl, fun wq hq => op_move u1_3⟩) hS ?_
      refine anyE_gen (fun A2 hA2 => ?_)
      have s2 : A2.tmps.size = 99 := by rw [hA2]; exact put_sz s1
      have u2_8 : A2.tmps[8]?.getD undef = (.pointer (some ⟨qb, 0, none⟩)) := by rw [hA2]; exact put_ne (by decide) u1_8
      have u2_78 : A2.tmps[78]?.getD undef = (.pointer (some ⟨W.heap.size, 0, none⟩)) := by rw [hA2]; exact put_ne (by decide) u1_78
      have u2_79 : A2.tmps[79]?.getD undef = (.pointer (some ⟨W.heap.size, 0, none⟩)) := by rw [hA2]; exact put_eq s1 (by decide)
      refine AnyE.take (i := 2) (.pointer (some ⟨W.heap.size, 0, none⟩)) rfl (by kernel_rfl) (by kernel_rfl) (by kernel_rfl) (by kernel_rfl) (fun _ _ _ h => h) (.inl ⟨by rfl, fun wq hq => op_nil u2_79⟩) hS ?_
      refine anyE_gen (fun A3 hA3 => ?_)
      have s3 : A3.tmps.size = 99 := by rw [hA3]; exact put_sz s2
      have u3_8 : A3.tmps[8]?.getD undef = (.pointer (some ⟨qb, 0, none⟩)) := by rw [hA3]; exact put_ne (by decide) u2_8
      have u3_78 : A3.tmps[78]?.getD undef = (.pointer (some ⟨W.heap.size, 0, none⟩)) := by rw [hA3]; exact put_ne (by decide) u2_78
      have u3_80 : A3.tmps[80]?.getD undef = (.pointer (some ⟨W.heap.size, 0, none⟩)) := by rw [hA3]; exact put_eq s2 (by decide)
      refine AnyE.take (i := 3) (.pointer (some ⟨W.heap.size, 0, none⟩)) rfl (by kernel_rfl) (by kernel_rfl) (by kernel_rfl) (by kernel_rfl) (fun _ _ _ h => h) (.inl ⟨by rfl, fun wq hq => op_field0 u3_80⟩) hS ?_
      refine anyE_gen (fun A4 hA4 => ?_)
      have s4 : A4.tmps.size = 99 := by rw [hA4]; exact put_sz s3
      have u4_8 : A4.tmps[8]?.getD undef = (.pointer (some ⟨qb, 0, none⟩)) := by rw [hA4]; exact put_ne (by decide) u3_8
      have u4_78 : A4.tmps[78]?.getD undef = (.pointer (some ⟨W.heap.size, 0, none⟩)) := by rw [hA4]; exact put_ne (by decide) u3_78
      have u4_81 : A4.tmps[81]?.getD undef = (.pointer (some ⟨W.heap.size, 0, none⟩)) := by rw [hA4]; exact put_eq s3 (by decide)
      refine AnyE.take (i := 4) (.slice aL t cL) rfl (by kernel_rfl) (by kernel_rfl) (by kernel_rfl) (by kernel_rfl) (fun _ _ _ h => h) (.inl ⟨by rfl, fun wq hq => op_loadL u4_81 hq.1⟩) hS ?_
      refine anyE_gen (fun A5 hA5 => ?_)
      have s5 : A5.tmps.size = 99 := by rw [hA5]; exact put_sz s4
      have u5_8 : A5.tmps[8]?.getD undef = (.pointer (some ⟨qb, 0, none⟩)) := by rw [hA5]; exact put_ne (by decide) u4_8
      have u5_78 : A5.tmps[78]?.getD undef = (.pointer (some ⟨W.heap.size, 0, none⟩)) := by rw [hA5]; exact put_ne (by decide) u4_78
      have u5_82 : A5.tmps[82]?.getD undef = (.slice aL t cL) := by rw [hA5]; exact put_eq s4 (by decide)
      refine AnyE.take (i := 5) (.agg #[.slice (some ⟨g1, 0, none⟩) n1 c1, .int .i64 xf, .slice (some ⟨g2, 0, none⟩) n2 c2, .int .i64 xt, .int .i64 xs, .int .i64 xk, .slice (some ⟨g3, 0, none⟩) n3 c3]) rfl (by kernel_rfl) (by kernel_rfl) (by kernel_rfl) (by kernel_rfl) (fun _ _ _ h => h) (.inl ⟨by rfl, fun wq hq => op_loadE u5_8 hq.2.1 hq.2.2.1 hq.2.2.2.1 hq.2.2.2.2.1 hq.2.2.2.2.2.1 hq.2.2.2.2.2.2.1 hq.2.2.2.2.2.2.2⟩) hS ?_
      refine anyE_gen (fun A6 hA6 => ?_)
      have s6 : A6.tmps.size = 99 := by rw [hA6]; exact put_sz s5
      have u6_78 : A6.tmps[78]?.getD undef = (.pointer (some ⟨W.heap.size, 0, none⟩)) := by rw [hA6]; exact put_ne (by decide) u5_78
      have u6_82 : A6.tmps[82]?.getD undef = (.slice aL t cL) := by rw [hA6]; exact put_ne (by decide) u5_82
      have u6_83 : A6.tmps[83]?.getD undef = (.agg #[.slice (some ⟨g1, 0, none⟩) n1 c1, .int .i64 xf, .slice (some ⟨g2, 0, none⟩) n2 c2, .int .i64 xt, .int .i64 xs, .int .i64 xk, .slice (some ⟨g3, 0, none⟩) n3 c3]) := by rw [hA6]; exact put_eq s5 (by decide)
      refine AnyE.one (i := 6) rfl (by kernel_rfl) (by rfl) (fun K6 hK6 => ?_)
      refine wp_buildE u6_83 ?_
      have D2 := D0.alloc D0.size (.cells #[.slice (some ⟨g1, 0, none⟩) n1 c1, .int .i64 xf, .slice (some ⟨g2, 0, none⟩) n2 c2, .int .i64 xt, .int .i64 xs, .int .i64 xk, .slice (some ⟨g3, 0, none⟩) n3 c3] 84)
      refine hK6.out _ _ ⟨fun _ => HS.out _ D2, ?_⟩
      clear hK6
      refine anyE_gen (fun A7 hA7 => ?_)
      have s7 : A7.tmps.size = 99 := by rw [hA7]; exact put_sz s6
      have u7_78 : A7.tmps[78]?.getD undef = (.pointer (some ⟨W.heap.size, 0, none⟩)) := by rw [hA7]; exact put_ne (by decide) u6_78
      have u7_82 : A7.tmps[82]?.getD undef = (.slice aL t cL) := by rw [hA7]; exact put_ne (by decide) u6_82
      have u7_84 : A7.tmps[84]?.getD undef = (.slice (some ⟨X8.drew.heap.size, 0, none⟩) 1 1) := by rw [hA7]; exact put_eq s6 (by decide)
      refine AnyE.one (i := 7) rfl (by kernel_rfl) (by rfl) (fun K7 hK7 => ?_)
      have HR9 := Lib.hid (HR8.out.later (fun i hi => D2.block i hi))
      refine wp_append_ent (xs := ys) (x := (⟨.slice (some ⟨g1, 0, none⟩) n1 c1, xf, .slice (some ⟨g2, 0, none⟩) n2 c2, xt, xs, xk, .slice (some ⟨g3, 0, none⟩) n3 c3, row, qual, val⟩ : EntD)) (.tmp 82) (.tmp 84) rfl (ev_tmp u7_82) HR9.out.rL ⟨X8.drew.heap.size, 0, none⟩ (ev_tmp u7_84) (ent_new X8.drew (⟨.slice (some ⟨g1, 0, none⟩) n1 c1, xf, .slice (some ⟨g2, 0, none⟩) n2 c2, xt, xs, xk, .slice (some ⟨g3, 0, none⟩) n3 c3, row, qual, val⟩ : EntD)) HRe.out.one (by rw [HYl2.out]; omega) (Nat.le_trans HB8.out.size D2.size) ?_
      intro aL2 cL2 w9 rL9 gr9 lo9
      have HG9 : Hid (X8.grownBy w9 (Value.slice aL t cL).ownBlock) := ⟨gr9.os, gr9.tape, gr9.output, Nat.le_trans (by show X8.heap.size ≤ X8.drew.heap.size + 1; exact Nat.le_succ _) (by have := gr9.size; rw [World.size_alloc] at this; exact this), fun k hk hne => (gr9.block k (by rw [World.size_alloc]; exact Nat.lt_succ_of_lt hk) hne).trans (D2.block k hk)⟩
      have bx9 : RBx w9 W.heap.size (.slice aL t cL) (.slice aW' (us.length + 3) cW') := (HG9.out.block _ HR8.out.box.tyd.lt (fun z => (row_tyd HR8.out.rL z.symm).ne HR8.out.box.tyd (by decide) rfl)).trans HR8.out.box
      have HS9 : w9.cell? ⟨W.heap.size, 0, none⟩ = some (.slice aL t cL) ∧ w9.cell? ⟨qb, 0, none⟩ = some (.slice (some ⟨g1, 0, none⟩) n1 c1) ∧ w9.cell? ⟨qb, 1, none⟩ = some (.int .i64 xf) ∧ w9.cell? ⟨qb, 2, none⟩ = some (.slice (some ⟨g2, 0, none⟩) n2 c2) ∧ w9.cell? ⟨qb, 3, none⟩ = some (.int .i64 xt) ∧ w9.cell? ⟨qb, 4, none⟩ = some (.int .i64 xs) ∧ w9.cell? ⟨qb, 5, none⟩ = some (.int .i64 xk) ∧ w9.cell? ⟨qb, 6, none⟩ = some (.slice (some ⟨g3, 0, none⟩) n3 c3) := by
        refine ⟨bx9.c0, ?_⟩
        have hq9 : EBox w9 qb (⟨.slice (some ⟨g1, 0, none⟩) n1 c1, xf, .slice (some ⟨g2, 0, none⟩) n2 c2, xt, xs, xk, .slice (some ⟨g3, 0, none⟩) n3 c3, row, qual, val⟩ : EntD) := (HG9.out.block qb (Array.getElem?_eq_some_iff.1 HE8.out).1 (fun z => ?_)).trans HE8.out
        · exact hq9.cells7
        · have h1 := HlL.out qb z.symm
          omega
      refine hK7.out _ _ ⟨fun _ => HS9, ?_⟩
      clear hK7
      refine anyE_gen (fun A8 hA8 => ?_)
      have s8 : A8.tmps.size = 99 := by rw [hA8]; exact put_sz s7
      have u8_78 : A8.tmps[78]?.getD undef = (.pointer (some ⟨W.heap.size, 0, none⟩)) := by rw [hA8]; exact put_ne (by decide) u7_78
      have u8_85 : A8.tmps[85]?.getD undef = (.slice aL2 (ys.length + 1) cL2) := by rw [hA8]; exact put_eq s7 (by decide)
      refine AnyE.one (i := 8) rfl (by kernel_rfl) (by rfl) (fun K8 hK8 => ?_)
      refine wp_nil0 u8_78 ?_
      refine hK8.out _ _ ⟨fun _ => HS9, ?_⟩
      clear hK8
      refine anyE_gen (fun A9 hA9 => ?_)
      have s9 : A9.tmps.size = 99 := by rw [hA9]; exact put_sz s8
      have u9_85 : A9.tmps[85]?.getD undef = (.slice aL2 (ys.length + 1) cL2) := by rw [hA9]; exact put_ne (by decide) u8_85
      have u9_86 : A9.tmps[86]?.getD undef = (.pointer (some ⟨W.heap.size, 0, none⟩)) := by rw [hA9]; exact put_eq s8 (by decide)
      refine AnyE.one (i := 9) rfl (by kernel_rfl) (by rfl) (fun K9 hK9 => ?_)
      refine wp_field0 u9_86 ?_
      refine hK9.out _ _ ⟨fun _ => HS9, ?_⟩
      clear hK9
      refine anyE_gen (fun A10 hA10 => ?_)
      have s10 : A10.tmps.size = 99 := by rw [hA10]; exact put_sz s9
      have u10_85 : A10.tmps[85]?.getD undef = (.slice aL2 (ys.length + 1) cL2) := by rw [hA10]; exact put_ne (by decide) u9_85
      have u10_87 : A10.tmps[87]?.getD undef = (.pointer (some ⟨W.heap.size, 0, none⟩)) := by rw [hA10]; exact put_eq s9 (by decide)
      refine AnyE.one (i := 10) rfl (by kernel_rfl) (by rfl) (fun K10 hK10 => ?_)
      refine wp_storeL bx9.c0 (bx9.fz 0) u10_87 u10_85 ?_
      refine hK10.out _ _ ⟨fun h => (by cases h), ?_⟩
      clear hK10
      refine AnyE.done (by kernel_rfl) (NoPanic.normal ?_) _
      have HFin := Lib.hid (Rm.putL HR8.out.box HR8.out.gB HR8.out.rL HR8.out.rW HR8.out.ul HYl2.out HR8.out.el HR8.out.ap (HXx.out.trans (by obtain ⟨f1, f2, f3⟩ := HNn.out; rw [f1, f2, f3])) HRe.out HG9.out rL9)
      clear s0 s1 s2 s3 s4 s5 s6 s7 s8 s9 s10 t3 t8 u1_3 u1_8 u1_78 u2_8 u2_78 u2_79 u3_8 u3_78 u3_80 u4_8 u4_78 u4_81 u5_8 u5_78 u5_82 u6_78 u6_82 u6_83 u7_78 u7_82 u7_84 u8_78 u8_85 u9_85 u9_86 u10_85 u10_87
      subst hA10 hA9 hA8 hA7 hA6 hA5 hA4 hA3 hA2 hA1 hA0
      have HBF : Hid (Below W.heap.size W (w9.setCell ⟨W.heap.size, 0, none⟩ (.slice aL2 (ys.length + 1) cL2))) := below_of_heap HB8.out HB8.out.size HG9.out.os HG9.out.tape HG9.out.output (by rw [World.size_setCell]; exact HG9.out.size) HFin.out.2
      clear HS9 hS bx9 gr9 lo9 rL9 D0 D2
      go_wp2
      go_roundw
      case rel => exact ⟨t + 1, _, _, _, _, by omega, by go_num, HFin.out.1, (by unfold Hid; rw [List.length_append, HYl2.out]; rfl), HBF.out⟩
      case measure => simp only [intOf]; omega
    · have hge : ¬ (t : Int) < (N : Int) := by omega
      obtain rfl : t = N := by omega
      have b0 := HRm.out.box.c0
      have bf := HRm.out.box.fz 0
      have HAl := Lib.hid ((Below.refl wr.heap.size wr).alloc (Nat.le_refl _) (.cells #[.slice none 0 0, .int .i64 (-9), .slice none 0 0, .int .i64 0, .int .i64 0, .int .i64 0, .slice none 0 0] 84))
      have HRA := Lib.hid (row_same HRm.out.rL (fun g hg => HAl.out.block g (HRm.out.rL.lt g hg).2))
      have HSz := Lib.hid (Nat.le_trans HBw.out.size HAl.out.size)
      go_wp2_with (at_builtin; refine wpl_append_ent (x := endE) (xs := ys) rfl _ _ rfl rfl HRA.out ⟨wr.heap.size, 0, none⟩ rfl (ent_new wr endE) (by simp [endE, EntD.cells]; decide) (by rw [HYl.out]; omega) HSz.out ?_)
      intro a7 c7 w7 row7 gr7
      have HG7 : Hid (wr.grownBy w7 (Value.slice aL t cL).ownBlock) := ⟨gr7.os, gr7.tape, gr7.output, Nat.le_trans (by rw [World.size_alloc]; exact Nat.le_succ _) gr7.size, fun k hk hne => (gr7.block k (by rw [World.size_alloc]; exact Nat.lt_succ_of_lt hk) hne).trans (HAl.out.block k hk)⟩
      have bx7 : RBx w7 W.heap.size (.slice aL t cL) (.slice aW (3 * t) cW) := (HG7.out.block _ HRm.out.box.tyd.lt (fun z => (row_tyd HRm.out.rL z.symm).ne HRm.out.box.tyd (by decide) rfl)).trans HRm.out.box
      have HF7 := Lib.hid (HRm.out.putE (y := endE) (vL' := .slice a7 (ys.length + 1) c7) HG7.out (by rw [List.length_append]; exact row7))
      have HBF : Hid (Below W.heap.size W (w7.setCell ⟨W.heap.size, 0, none⟩ (.slice a7 (ys.length + 1) c7))) := below_of_heap HBw.out HBw.out.size HG7.out.os HG7.out.tape HG7.out.output (by rw [World.size_setCell]; exact HG7.out.size) HF7.out.2
      have c0 := bx7.c0
      have f0 := bx7.fz 0
      clear bx7 row7 gr7 b0 bf
      go_wp2
      go_ret
      exact ⟨W.heap.size, ys, us, _, _, rfl, HBF.out, HYl.out, HF7.out.1⟩
end Go.Proofs.YthhkpkfpifllkaaGreat

namespace Go.Proofs.YthhkpkfpifllkaaGreat
open Go.RowKit Go.Maps
set_option linter.unusedVariables false

structure Fz (B B1 : Nat) (w w' : World) : Prop where
  os : w'.os = w.os
  tape : w'.tape = w.tape
  output : w'.output = w.output
  size : w.heap.size ≤ w'.heap.size
  block : ∀ i, i < w.heap.size → (i < B ∨ B1 ≤ i) → w'.heap[i]? = w.heap[i]?
theorem Fz.of {B B1 : Nat} {w w' : World} (h : Below w.heap.size w w') : Fz B B1 w w' := ⟨h.os, h.tape, h.output, h.size, fun i hi _ => h.block i hi⟩
theorem Fz.trans {B B1 : Nat} {w w1 w2 : World} (h : Fz B B1 w w1) (k : Fz B B1 w1 w2) : Fz B B1 w w2 :=
  ⟨k.os.trans h.os, k.tape.trans h.tape, k.output.trans h.output, Nat.le_trans h.size k.size, fun i hi q => (k.block i (Nat.lt_of_lt_of_le hi h.size) q).trans (h.block i hi q)⟩
theorem Fz.set {B B1 : Nat} {w : World} {g j : Nat} {v : Value} (h1 : B ≤ g) (h2 : g < B1) : Fz B B1 w (w.setCell ⟨g, j, none⟩ v) :=
  ⟨rfl, rfl, rfl, by rw [World.size_setCell]; exact Nat.le_refl _, fun i hi q => Below.heap_setCell _ _ _ _ (fun z => by have : i = g := z; omega)⟩
def Bk (w : World) (g : Nat) (ty : TypeId) (n : Nat) : Prop := ∃ cur : Array Value, w.heap[g]? = some (.cells cur ty (0, 0)) ∧ n ≤ cur.size
theorem Bk.cell {w : World} {g n : Nat} {ty : TypeId} (h : Bk w g ty n) {i : Nat} (hi : i < n) : ∃ v, w.cell? ⟨g, i, none⟩ = some v ∧ w.frozen? ⟨g, i, none⟩ = false := by
  obtain ⟨cur, h1, h2⟩ := h
  exact ⟨cur[i]'(by omega), by simp [World.cell?, h1, Array.getElem?_eq_getElem (show i < cur.size by omega)], by simp [World.frozen?, h1]⟩
theorem Bk.set {w : World} {g n : Nat} {ty : TypeId} (h : Bk w g ty n) (g' j : Nat) (v : Value) : Bk (w.setCell ⟨g', j, none⟩ v) g ty n := by
  by_cases e : g = g'
  · subst e
    obtain ⟨cur, h1, h2⟩ := h
    refine ⟨cur.setIfInBounds j v, ?_, by rw [Array.size_setIfInBounds]; exact h2⟩
    simp [World.setCell, Array.getElem?_modify, h1]
  · obtain ⟨cur, h1, h2⟩ := h
    exact ⟨cur, by rw [Below.heap_setCell _ _ _ _ e]; exact h1, h2⟩
theorem Bk.tyd {w : World} {g n : Nat} {ty : TypeId} (h : Bk w g ty n) : Tyd w g ty := by
  obtain ⟨cur, h1, h2⟩ := h
  exact ⟨cur, _, h1⟩
structure Sw (B B1 : Nat) (w wr : World) (g gL gW : Nat) (vL vW : Value) (us : List Value) (M : Nat) : Prop where
  box : RBx wr g vL vW
  gR : B ≤ g ∧ g < B1
  cW : ∀ (i : Nat) u, us[i]? = some u → wr.cell? ⟨gW, i, none⟩ = some u
  tW : us ≠ [] → Tyd wr gW 82
  bl : ∀ u ∈ us, ∃ gb n c, u = .slice (some ⟨gb, 0, none⟩) n c ∧ Bk wr gb 5 n ∧ B ≤ gb ∧ gb < B1 ∧ n ≤ c ∧ n ≤ 281474976710656
  bL : Bk wr gL 84 (M * 7)
  lR : B ≤ gL ∧ gL < B1
  fr : Fz B B1 w wr
theorem Sw.set {B B1 : Nat} {w wr : World} {g gL gW M : Nat} {vL vW : Value} {us : List Value} (h : Sw B B1 w wr g gL gW vL vW us M) {gb j : Nat} {ty : TypeId} (ht : Tyd wr gb ty) (h1 : ty ≠ 37) (h2 : ty ≠ 82) (r1 : B ≤ gb) (r2 : gb < B1) (v : Value) : Sw B B1 w (wr.setCell ⟨gb, j, none⟩ v) g gL gW vL vW us M := by
  have k : ∀ i, i ≠ gb → (wr.setCell ⟨gb, j, none⟩ v).heap[i]? = wr.heap[i]? := fun i hi => Below.heap_setCell _ _ _ _ hi
  refine ⟨(k g (fun z => ht.ne h.box.tyd h1 z.symm)).trans h.box, h.gR, fun i u hu => ?_, fun hne => ?_, fun u hu => ?_, h.bL.set _ _ _, h.lR, h.fr.trans (Fz.set r1 r2)⟩
  · have hne : us ≠ [] := fun z => by rw [z] at hu; simp at hu
    have := h.cW i u hu
    unfold World.cell? at this ⊢
    rw [k gW (fun z => ht.ne (h.tW hne) h2 z.symm)]
    exact this
  · obtain ⟨c, f, q⟩ := h.tW hne
    exact ⟨c, f, (k gW (fun z => ht.ne (h.tW hne) h2 z.symm)).trans q⟩
  · obtain ⟨gb', n, c, q1, q2, q3, q4, q5, q6⟩ := h.bl u hu
    exact ⟨gb', n, c, q1, q2.set _ _ _, q3, q4, q5, q6⟩
theorem rm_zip {B : Nat} {w : World} {g : Nat} {l ys : List EntD} {us : List Value} {vL vW : Value} (h : Rm B w g l l.length (ys ++ [endE]) us vL vW) (hyl : ys.length = l.length) : ys.map EntD.dat = l.map EntD.dat := by
  apply List.ext_getElem?
  intro i
  rw [List.getElem?_map, List.getElem?_map]
  by_cases hi : i < l.length
  · obtain ⟨x, y, u1, u2, u3, a1, a2, _, _, _, a6⟩ := h.el i hi
    rw [List.getElem?_append_left (by omega)] at a2
    rw [a1, a2]
    show some y.dat = some x.dat
    rw [a6.dat]
  · rw [List.getElem?_eq_none (by omega), List.getElem?_eq_none (by omega)]
theorem rm_ok {B : Nat} {w : World} {g : Nat} {l ys : List EntD} {us : List Value} {vL vW : Value} (h : Rm B w g l l.length (ys ++ [endE]) us vL vW) (hyl : ys.length = l.length) (hb : ∀ e ∈ l.map EntD.dat, ByE e) (hs : ∀ x ∈ l, ShrtW x) : ∀ y ∈ ys ++ [endE], EntD.Ok w y := by
  intro y hy
  rcases List.mem_append.1 hy with q | q
  · obtain ⟨i, hi⟩ := List.getElem?_of_mem q
    have hil : i < l.length := by have := (List.getElem?_eq_some_iff.1 hi).1; omega
    obtain ⟨x, y', u1, u2, u3, a1, a2, _, _, _, a6⟩ := h.el i hil
    rw [List.getElem?_append_left (by omega), hi] at a2
    cases a2
    have xm := List.mem_of_getElem? a1
    exact a6.ok (hb _ (List.mem_map_of_mem xm)) (hs x xm)
  · rw [List.mem_singleton] at q
    subst q
    exact ⟨rd_none _, rd_none _, rd_none _⟩
theorem rm_list {B : Nat} {w : World} {g : Nat} {l ys : List EntD} {us : List Value} {vL vW : Value} (h : Rm B w g l l.length (ys ++ [endE]) us vL vW) (hyl : ys.length = l.length) (hb : ∀ e ∈ l.map EntD.dat, ByE e) (hs : ∀ x ∈ l, ShrtW x) : ∃ gL cL, vL = .slice (some ⟨gL, 0, none⟩) (l.length + 1) cL ∧ l.length + 1 ≤ cL ∧ RdL3 w (some ⟨gL, 0, none⟩) cL ys ∧ w.cell? ⟨gL, l.length * 7 + 1, none⟩ = some (.int .i64 (-9)) ∧ Bk w gL 84 ((l.length + 1) * 7) ∧ B ≤ gL ∧ gL < w.heap.size := by
  obtain ⟨a, c, e, hr⟩ := row_rdl h.rL (rm_ok h hyl hb hs)
  have ln : (ys ++ [endE]).length = l.length + 1 := by simp [hyl]
  have r1 := hr.takeN ys.length
  rw [show (ys ++ [endE]).take ys.length = ys by simp] at r1
  rcases h.rL.2 with ⟨h1, h2⟩ | ⟨gL, cap, cur, h1, h2, h3, h4, h5, h6, h7⟩
  · omega
  · rw [ln] at h1 h4 h7
    rw [h1, ln] at e
    simp only [Value.slice.injEq] at e
    obtain ⟨ea, -, ec⟩ := e
    subst ea ec
    refine ⟨gL, cap, h1, h4, r1, ?_, ⟨cur, h3, by rw [h6]; exact Nat.mul_le_mul_right 7 h4⟩, h2, (Array.getElem?_eq_some_iff.1 h3).1⟩
    have := hr.cells (Below.refl _ _) (t := l.length) (x := endE) (by rw [List.getElem?_append_right (by omega), hyl]; simp) 1 (.int .i64 (-9)) rfl
    simpa using this
theorem rm_wides {B : Nat} {w : World} {g : Nat} {l ys : List EntD} {us : List Value} {vL vW : Value} (h : Rm B w g l l.length (ys ++ [endE]) us vL vW) : ∃ (gW : Nat) (aW : Option Addr) (cW : Nat), vW = .slice aW (3 * l.length) cW ∧ (us ≠ [] → aW = some ⟨gW, 0, none⟩ ∧ Tyd w gW 82) ∧ (∀ (i : Nat) u, us[i]? = some u → w.cell? ⟨gW, i, none⟩ = some u) ∧ 3 * l.length ≤ cW := by
  have hl := h.ul
  rcases h.rW.2 with ⟨h1, h2⟩ | ⟨gW, cap, cur, h1, h2, h3, h4, h5, h6, h7⟩
  · have hz : us = [] := List.eq_nil_of_length_eq_zero h2
    refine ⟨0, none, 0, by rw [h1]; congr 1; omega, fun z => absurd hz z, fun i u hu => by rw [hz] at hu; simp at hu, by omega⟩
  · refine ⟨gW, some ⟨gW, 0, none⟩, cap, by rw [h1, hl], fun _ => ⟨rfl, cur, _, h3⟩, fun i u hu => ?_, by omega⟩
    have hi : i < us.length := (List.getElem?_eq_some_iff.1 hu).1
    rw [← h7, Nat.mul_one, List.getElem?_take_of_lt hi] at hu
    simp only [World.cell?, h3]
    simpa using hu
theorem rm_bl {B : Nat} {w : World} {g : Nat} {l ys : List EntD} {us : List Value} {vL vW : Value} (h : Rm B w g l l.length (ys ++ [endE]) us vL vW) (hs : ∀ x ∈ l, ShrtW x) : ∀ u ∈ us, ∃ gb n c, u = .slice (some ⟨gb, 0, none⟩) n c ∧ Bk w gb 5 n ∧ B ≤ gb ∧ gb < w.heap.size ∧ n ≤ c ∧ n ≤ 281474976710656 := by
  have key : ∀ {v u : Value} {bs : List Nat}, Wd w B v u bs → bs.length ≤ 140737488351232 → ∃ gb n c, u = .slice (some ⟨gb, 0, none⟩) n c ∧ Bk w gb 5 n ∧ B ≤ gb ∧ gb < w.heap.size ∧ n ≤ c ∧ n ≤ 281474976710656 := by
    intro v u bs hw hb
    rcases hw.own.2.2 with ⟨h1, h2⟩ | ⟨gb, cap, cur, h1, h2, h3, h4, h5, h6, h7⟩
    · omega
    · exact ⟨gb, _, cap, h1, ⟨cur, h3, by omega⟩, h2, (Array.getElem?_eq_some_iff.1 h3).1, h4, by omega⟩
  intro u hu
  obtain ⟨j, hj⟩ := List.getElem?_of_mem hu
  have hjl : j < us.length := (List.getElem?_eq_some_iff.1 hj).1
  have hl := h.ul
  obtain ⟨x, y, u1, u2, u3, a1, _, a3, a4, a5, a6⟩ := h.el (j / 3) (by omega)
  have sx := hs x (List.mem_of_getElem? a1)
  have e := Nat.div_add_mod j 3
  have m3 := Nat.mod_lt j (show 0 < 3 by decide)
  match hm : j % 3, m3 with
  | 0, _ =>
    rw [show 3 * (j / 3) = j by omega, hj] at a3
    cases a3
    exact key a6.r sx.1
  | 1, _ =>
    rw [show 3 * (j / 3) + 1 = j by omega, hj] at a4
    cases a4
    exact key a6.q sx.2.1
  | 2, _ =>
    rw [show 3 * (j / 3) + 2 = j by omega, hj] at a5
    cases a5
    exact key a6.v sx.2.2
end Go.Proofs.YthhkpkfpifllkaaGreat

namespace Go.Proofs.YthhkpkfpifllkaaGreat
open Go.RowKit Go.Maps
set_option linter.unusedVariables false

theorem Wd.far {w w' : World} {B : Nat} {v u : Value} {bs : List Nat} (h : Wd w B v u bs) (k : ∀ i, B ≤ i → i < w.heap.size → w'.heap[i]? = w.heap[i]?) : Wd w' B v u bs := h.keep (fun g hg => k g (h.own.2.lt g hg).1 (h.own.2.lt g hg).2)
theorem Re.far {w w' : World} {B : Nat} {x y : EntD} {u1 u2 u3 : Value} (h : Re w B x y u1 u2 u3) (k : ∀ i, B ≤ i → i < w.heap.size → w'.heap[i]? = w.heap[i]?) : Re w' B x y u1 u2 u3 := ⟨h.dat, h.r.far k, h.q.far k, h.v.far k⟩
theorem Rm.far {B : Nat} {w w' : World} {g t : Nat} {l ys : List EntD} {us : List Value} {vL vW : Value} (h : Rm B w g l t ys us vL vW) (k : ∀ i, B ≤ i → i < w.heap.size → w'.heap[i]? = w.heap[i]?) : Rm B w' g l t ys us vL vW :=
  ⟨(k g h.gB h.box.tyd.lt).trans h.box, h.gB, row_same h.rL (fun g hg => k g (h.rL.lt g hg).1 (h.rL.lt g hg).2), row_same h.rW (fun g hg => k g (h.rW.lt g hg).1 (h.rW.lt g hg).2), h.ul, h.yl, fun i hi => by
    obtain ⟨x, y, u1, u2, u3, a1, a2, a3, a4, a5, a6⟩ := h.el i hi
    exact ⟨x, y, u1, u2, u3, a1, a2, a3, a4, a5, a6.far k⟩, h.ap⟩
theorem cell_heap {w w' : World} {b i : Nat} (h : w'.heap[b]? = w.heap[b]?) : w'.cell? ⟨b, i, none⟩ = w.cell? ⟨b, i, none⟩ := by simp only [World.cell?, h]
set_option maxRecDepth 100000 in
set_option maxHeartbeats 16000000 in
theorem stands_far {W1 w : World} {B g : Nat} {l ys : List EntD} {us : List Value} {vL vW : Value} {a : Option Addr} {cap : Nat} (hR : Rm B W1 g l l.length (ys ++ [endE]) us vL vW) (hyl : ys.length = l.length) (hB1 : W1.heap.size ≤ w.heap.size) (hk : ∀ i, B ≤ i → i < W1.heap.size → w.heap[i]? = W1.heap[i]?) (hl : RdL3 w a cap l) (hn : l.length ≤ 1353245080300) (hs : ∀ x ∈ l, ShrtW x) :
    Calls Tryz.prog 77 #[.pointer (some ⟨g, 0, none⟩), .slice a l.length cap] w fun r w' => r = .returned (.bool true) ∧ Fz B W1.heap.size w w' := by
  have hRw := hR.far hk
  obtain ⟨gL, cL, rfl, hcL, rL0, cE, bL, gB, gl⟩ := rm_list hR hyl hl.by hs
  have rL : RdL3 w (some ⟨gL, 0, none⟩) cL ys := by
    obtain ⟨g2, c2, e2, _, r2, _⟩ := rm_list hRw hyl hl.by hs
    cases e2
    exact r2
  obtain ⟨gW, aW, cW, rfl, hW1, hW2, hW3⟩ := rm_wides hR
  have hbl := rm_bl hR hs
  have hz := rm_zip hR hyl
  obtain ⟨N, hN⟩ : ∃ N, N = l.length := ⟨_, rfl⟩
  obtain ⟨M, hM⟩ : ∃ M, M = l.length + 1 := ⟨_, rfl⟩
  obtain ⟨T, hT⟩ : ∃ T, T = 3 * l.length := ⟨_, rfl⟩
  have hul := hR.ul
  have HSm := Lib.hid (sameAll_ok rL hl hz (by rw [hyl]; exact hn))
  rw [hyl] at HSm
  have HSw : Hid (∀ Z, Below w.heap.size w Z → Sw B W1.heap.size w Z g gL gW (.slice (some ⟨gL, 0, none⟩) (l.length + 1) cL) (.slice aW (3 * l.length) cW) us (l.length + 1)) := fun Z b => by
    have kk : ∀ i, B ≤ i → i < W1.heap.size → Z.heap[i]? = W1.heap[i]? := fun i h1 h2 => (b.block i (Nat.lt_of_lt_of_le h2 hB1)).trans (hk i h1 h2)
    refine ⟨(kk g hR.gB hR.box.tyd.lt).trans hR.box, ⟨hR.gB, hR.box.tyd.lt⟩, fun i u hu => ?_, fun hne => ?_, fun u hu => ?_, ?_, ⟨gB, gl⟩, Fz.of b⟩
    · have := hW2 i u hu
      have hne : us ≠ [] := fun z => by rw [z] at hu; cases hu
      have hg := hR.rW.lt gW (by rw [(hW1 hne).1]; rfl)
      rw [cell_heap (kk gW hg.1 hg.2)]
      exact this
    · obtain ⟨c, f, q⟩ := (hW1 hne).2
      have hg := hR.rW.lt gW (by rw [(hW1 hne).1]; rfl)
      exact ⟨c, f, (kk gW hg.1 hg.2).trans q⟩
    · obtain ⟨gb, n, c, q1, q2, q3, q4, q5, q6⟩ := hbl u hu
      obtain ⟨cur, k1, k2⟩ := q2
      exact ⟨gb, n, c, q1, ⟨cur, (kk gb q3 q4).trans k1, k2⟩, q3, q4, q5, q6⟩
    · obtain ⟨cur, k1, k2⟩ := bL
      exact ⟨cur, (kk gL gB gl).trans k1, k2⟩
  have HRz : Hid (∀ Z, Below w.heap.size w Z → Rm B Z g l l.length (ys ++ [endE]) us (.slice (some ⟨gL, 0, none⟩) (l.length + 1) cL) (.slice aW (3 * l.length) cW)) := fun Z b => hRw.later (fun i hi => b.block i hi)
  have HL : Hid (∀ Z, Below w.heap.size w Z → RdL3 Z a cap l) := fun Z b => hl.later b
  have HBy := Lib.hid hl.by
  have HSh := Lib.hid hs
  have cE2 : w.cell? ⟨gL, l.length * 7 + 1, none⟩ = some (.int .i64 (-9)) := by rw [cell_heap (hk gL gB gl)]; exact cE
  have c0 := (HSw.out w (Below.refl _ _)).box.c0
  have hc := hl.cap
  have HUl : Hid (us.length = T) := by unfold Hid; rw [hul, hT]
  have HW1 : Hid (us ≠ [] → aW = some ⟨gW, 0, none⟩) := fun z => (hW1 z).1
  have HcW : Hid (3 * l.length ≤ cW) := hW3
  rw [← hM] at c0 HSw hcL HRz
  rw [← hT] at HSw HRz
  rw [← hN] at hn hc cE2 HSm ⊢
  have HN := Lib.hid hN
  have HT : Hid (T = 3 * N) := by unfold Hid; rw [hT, hN]
  have HMm : Hid (M = N + 1) := by unfold Hid; rw [hM, hN]
  have qM : ((M : Int) != (N : Int) + 1) = false := by have := HMm.out; simp; omega
  have qM2 : (N : Int) < (M : Int) := by have := HMm.out; omega
  have qMc : (N : Int) ≤ (cL : Int) := by have := HMm.out; omega
  have N0 : (0 : Int) ≤ (N : Int) := by omega
  have hTb : T ≤ 4059735240900 := by have := HT.out; omega
  clear hR hyl hB1 hk hRw rL0 hl hs rL cE bL hW1 hW2 hW3 hbl hz hul hN hM hT
  go_enter Tryz.func77, Tryz.ntmps77
  go_wp2_with fail
  refine Calls.mono HSm.out ?_
  rintro e w1 ⟨rfl, b1⟩
  have B1 := Lib.hid b1
  clear b1 HSm cE2 c0
  go_wp2
  go_loopw [6] (fun i wr => ∃ t : Nat, t ≤ N ∧ i = .int .i64 (t : Int) ∧ Hid (Below w.heap.size w wr)) (fun i _ => N - (intOf i).toNat)
  case atStart => exact ⟨0, Nat.zero_le _, rfl, B1.out⟩
  case round =>
    obtain ⟨t, ht, rfl, HBw⟩ := hrel
    have t0 : (0 : Int) ≤ (t : Int) := by omega
    by_cases hlt : t < N
    · have hlt2 : (t : Int) < (N : Int) := by omega
      obtain ⟨k0, hk0⟩ : ∃ k, k = 3 * t := ⟨_, rfl⟩
      obtain ⟨k1, hk1⟩ : ∃ k, k = 3 * t + 1 := ⟨_, rfl⟩
      obtain ⟨k2, hk2⟩ : ∃ k, k = 3 * t + 2 := ⟨_, rfl⟩
      obtain ⟨x, y, u1, u2, u3, p1, p2, p3, p4, p5, p6⟩ := (HRz.out _ (Below.refl _ _)).el t (by rw [← HN.out]; exact hlt)
      have hne : us ≠ [] := fun z => by rw [z] at p3; simp at p3
      obtain rfl := HW1.out hne
      rw [← hk0] at p3
      rw [← hk1] at p4
      rw [← hk2] at p5
      obtain ⟨bl, ol, rfl⟩ : ∃ b off, a = some ⟨b, off, none⟩ := by
        rcases (HL.out _ (Below.refl _ _)).at_ with h0 | ⟨b, off, q, _⟩
        · rw [h0] at p1; simp at p1
        · exact ⟨b, off, q⟩
      have xm := List.mem_of_getElem? p1
      have hok := (HL.out _ (Below.refl _ _)).ok x xm
      obtain ⟨xr, xf, xq, xt, xs, xk, xv, row, qual, val⟩ := x
      obtain ⟨_, ar, cr, er, -⟩ := id hok.1
      obtain ⟨_, aq, cq, eq, -⟩ := id hok.2.1
      obtain ⟨_, av, cv, ev, -⟩ := id hok.2.2
      simp only at er eq ev
      subst er eq ev
      obtain ⟨g1, c1, -, eu1⟩ := p6.r.form
      obtain ⟨g2, c2, -, eu2⟩ := p6.q.form
      obtain ⟨g3, c3, -, eu3⟩ := p6.v.form
      simp only at eu1 eu2 eu3
      subst eu1 eu2 eu3
      have HK : Hid (∀ Z, Below w.heap.size w Z → (Calls Tryz.prog 64 #[.slice (some ⟨g1, 0, none⟩) (row.length + 5) c1, .slice ar row.length cr] Z fun e w' => e = .returned (.bool true) ∧ Below Z.heap.size Z w') ∧ (Calls Tryz.prog 64 #[.slice (some ⟨g2, 0, none⟩) (qual.length + 5) c2, .slice aq qual.length cq] Z fun e w' => e = .returned (.bool true) ∧ Below Z.heap.size Z w') ∧ (Calls Tryz.prog 64 #[.slice (some ⟨g3, 0, none⟩) (val.length + 5) c3, .slice av val.length cv] Z fun e w' => e = .returned (.bool true) ∧ Below Z.heap.size Z w')) := fun Z b => by
        have ok := hok.later b
        have by_ := HBy.out _ (List.mem_map_of_mem xm)
        have sh := HSh.out _ xm
        have kk : ∀ i, i < w.heap.size → Z.heap[i]? = w.heap[i]? := fun i hi => b.block i hi
        have r1 := (p6.r.keep (fun g hg => kk g (p6.r.own.2.lt g hg).2)).rdu by_.1.1 sh.1
        have r2 := (p6.q.keep (fun g hg => kk g (p6.q.own.2.lt g hg).2)).rdu by_.1.2.1 sh.2.1
        have r3 := (p6.v.keep (fun g hg => kk g (p6.v.own.2.lt g hg).2)).rdu by_.1.2.2 sh.2.2
        exact ⟨kept3_any r1 ok.1, kept3_any r2 ok.2.1, kept3_any r3 ok.2.2⟩
      obtain ⟨n1, hn1⟩ : ∃ n, n = row.length := ⟨_, rfl⟩
      obtain ⟨n2, hn2⟩ : ∃ n, n = qual.length := ⟨_, rfl⟩
      obtain ⟨n3, hn3⟩ : ∃ n, n = val.length := ⟨_, rfl⟩
      have HS : Hid (∀ Z, Below w.heap.size w Z → Z.cell? ⟨g, 1, none⟩ = some (.slice (some ⟨gW, 0, none⟩) T cW) ∧ Z.cell? ⟨gW, k0, none⟩ = some (.slice (some ⟨g1, 0, none⟩) (n1 + 5) c1) ∧ Z.cell? ⟨gW, k1, none⟩ = some (.slice (some ⟨g2, 0, none⟩) (n2 + 5) c2) ∧ Z.cell? ⟨gW, k2, none⟩ = some (.slice (some ⟨g3, 0, none⟩) (n3 + 5) c3) ∧ Z.cell? ⟨bl, ol + t * 7, none⟩ = some (.slice ar n1 cr) ∧ Z.cell? ⟨bl, ol + t * 7 + 2, none⟩ = some (.slice aq n2 cq) ∧ Z.cell? ⟨bl, ol + t * 7 + 6, none⟩ = some (.slice av n3 cv)) := fun Z b => by
        have cx := (HL.out Z b).cells (Below.refl _ _) p1
        have sw := HSw.out Z b
        rw [hn1, hn2, hn3]
        exact ⟨sw.box.c1, sw.cW _ _ p3, sw.cW _ _ p4, sw.cW _ _ p5, by have := cx 0 _ rfl; simpa using this, cx 2 _ rfl, cx 6 _ rfl⟩
      rw [← hn1, ← hn2, ← hn3] at HK
      have m0 : IntKind.i64.wrap (3 * (t : Int)) = (k0 : Int) := by simp [IntKind.wrap, IntKind.bits, IntKind.signed]; omega
      have m1 : IntKind.i64.wrap ((k0 : Int) + 1) = (k1 : Int) := by simp [IntKind.wrap, IntKind.bits, IntKind.signed]; omega
      have m2 : IntKind.i64.wrap ((k0 : Int) + 2) = (k2 : Int) := by simp [IntKind.wrap, IntKind.bits, IntKind.signed]; omega
      have hTT := HT.out
      have j0 : (k0 : Int) < (T : Int) := by omega
      have j1 : (k1 : Int) < (T : Int) := by omega
      have j2 : (k2 : Int) < (T : Int) := by omega
      have i0 : (0 : Int) ≤ (k0 : Int) := by omega
      have i1 : (0 : Int) ≤ (k1 : Int) := by omega
      have i2 : (0 : Int) ≤ (k2 : Int) := by omega
      clear hk0 hk1 hk2 p1 p2 p3 p4 p5 p6 hne xm hok hn1 hn2 hn3 hTT
      have D0 : Below w.heap.size w wr.drew := HBw.out.drew
      go_wp2_with fail
      go_region_held3 (fun Z => Z.cell? ⟨g, 1, none⟩ = some (.slice (some ⟨gW, 0, none⟩) T cW) ∧ Z.cell? ⟨gW, k0, none⟩ = some (.slice (some ⟨g1, 0, none⟩) (n1 + 5) c1) ∧ Z.cell? ⟨gW, k1, none⟩ = some (.slice (some ⟨g2, 0, none⟩) (n2 + 5) c2) ∧ Z.cell? ⟨gW, k2, none⟩ = some (.slice (some ⟨g3, 0, none⟩) (n3 + 5) c3) ∧ Z.cell? ⟨bl, ol + t * 7, none⟩ = some (.slice ar n1 cr) ∧ Z.cell? ⟨bl, ol + t * 7 + 2, none⟩ = some (.slice aq n2 cq) ∧ Z.cell? ⟨bl, ol + t * 7 + 6, none⟩ = some (.slice av n3 cv)) (first | exact HS.out _ D3 | exact HS.out _ D2 | exact HS.out _ D1 | exact HS.out _ D0) (first | (have hq := D2; clear hq; (go_at_call 64; refine Calls.mono (HK.out _ D2).2.2 ?_; rintro e1 w5 ⟨rfl, hb1⟩; have D3 := D2.trans (hb1.mono D2.size))) | (have hq := D1; clear hq; (go_at_call 64; refine Calls.mono (HK.out _ D1).2.1 ?_; rintro e1 w5 ⟨rfl, hb1⟩; have D2 := D1.trans (hb1.mono D1.size))) | (go_at_call 64; refine Calls.mono (HK.out _ D0).1 ?_; rintro e1 w5 ⟨rfl, hb1⟩; have D1 := D0.trans (hb1.mono D0.size)))
      have BE := Lib.hid D3
      clear D0 D1 D2 D3
      go_wp2
      go_roundw
      case rel => exact ⟨t + 1, by omega, by go_num, BE.out⟩
      case measure => simp only [intOf]; omega
    · have hge : ¬ (t : Int) < (N : Int) := by omega
      have HS0 := Lib.hid (HSw.out _ HBw.out)
      clear HSw HRz HL
      go_wp2
      go_loopw [7, 8] (fun i _ wr => ∃ t : Nat, t ≤ T ∧ i = .int .i64 (t : Int) ∧ Hid (Sw B W1.heap.size w wr g gL gW (.slice (some ⟨gL, 0, none⟩) M cL) (.slice aW T cW) us M)) (fun i _ _ => T - (intOf i).toNat)
      case atStart => exact ⟨0, Nat.zero_le _, rfl, HS0.out⟩
      case round =>
        clear HS0
        obtain ⟨t, ht, rfl, HQ⟩ := hrel
        have t0 : (0 : Int) ≤ (t : Int) := by omega
        have b1 := HQ.out.box.c1
        by_cases hlt : t < T
        · have hlt2 : (t : Int) < (T : Int) := by omega
          obtain ⟨u, hu⟩ : ∃ u, us[t]? = some u := ⟨us[t]'(by rw [HUl.out]; exact hlt), List.getElem?_eq_getElem _⟩
          have HUu := Lib.hid hu
          have hne : us ≠ [] := fun z => by rw [z] at hu; simp at hu
          obtain rfl := HW1.out hne
          obtain ⟨gb, n, c, rfl, -, r1, r2, q5, q6⟩ := HQ.out.bl u (List.mem_of_getElem? hu)
          have cu := HQ.out.cW t _ hu
          have HR := Lib.hid (And.intro r1 r2)
          have HUm := Lib.hid (List.mem_of_getElem? hu)
          clear hu hne r1 r2
          go_wp2
          go_loopw [8] (fun k wr => ∃ q : Nat, q ≤ n ∧ k = .int .i64 (q : Int) ∧ Hid (Sw B W1.heap.size w wr g gL gW (.slice (some ⟨gL, 0, none⟩) M cL) (.slice (some ⟨gW, 0, none⟩) T cW) us M)) (fun k _ => n - (intOf k).toNat)
          case atStart => exact ⟨0, Nat.zero_le _, rfl, HQ.out⟩
          case round =>
            clear HQ b1 cu
            obtain ⟨q, hq, rfl, HQ⟩ := hrel
            have q0 : (0 : Int) ≤ (q : Int) := by omega
            have b1 := HQ.out.box.c1
            have cu := HQ.out.cW t _ HUu.out
            by_cases hqn : q < n
            · have hqn2 : (q : Int) < (n : Int) := by omega
              obtain ⟨gb', n', c', e', bk, -, -, -, -⟩ := HQ.out.bl _ HUm.out
              simp only [Value.slice.injEq, Option.some.injEq, Addr.mk.injEq] at e'
              obtain ⟨⟨rfl, -, -⟩, rfl, rfl⟩ := e'
              obtain ⟨v0, cb, fb⟩ := bk.cell hqn
              have HSt := Lib.hid (HQ.out.set (j := q) bk.tyd (by decide) (by decide) HR.out.1 HR.out.2 (.int .u8 66))
              clear bk
              go_wp2
              go_roundw
              case rel => exact ⟨q + 1, by omega, by go_num, HSt.out⟩
              case measure => simp only [intOf]; omega
            · have hqg : ¬ (q : Int) < (n : Int) := by omega
              go_wp2
              go_roundw
              case rel => exact ⟨t + 1, by omega, by go_num, HQ.out⟩
              case measure => simp only [intOf]; omega
        · have hgt : ¬ (t : Int) < (T : Int) := by omega
          go_wp2
          go_loopw [9] (fun i wr => ∃ t : Nat, t ≤ N ∧ i = .int .i64 (t : Int) ∧ Hid (Sw B W1.heap.size w wr g gL gW (.slice (some ⟨gL, 0, none⟩) M cL) (.slice aW T cW) us M)) (fun i _ => N - (intOf i).toNat)
          case atStart => exact ⟨0, Nat.zero_le _, rfl, HQ.out⟩
          case round =>
            clear HQ b1
            obtain ⟨t, ht, rfl, HQ⟩ := hrel
            have t0 : (0 : Int) ≤ (t : Int) := by omega
            by_cases hlt : t < N
            · have hlt2 : (t : Int) < (N : Int) := by omega
              have b0 := HQ.out.box.c0
              have htM : (t : Int) < (M : Int) := by omega
              have hMn := HMm.out
              obtain ⟨v0, o0, f0⟩ := HQ.out.bL.cell (i := t * 7) (by omega)
              obtain ⟨v1, o1, f1⟩ := HQ.out.bL.cell (i := t * 7 + 1) (by omega)
              obtain ⟨v2, o2, f2⟩ := HQ.out.bL.cell (i := t * 7 + 2) (by omega)
              obtain ⟨v3, o3, f3⟩ := HQ.out.bL.cell (i := t * 7 + 3) (by omega)
              obtain ⟨v4, o4, f4⟩ := HQ.out.bL.cell (i := t * 7 + 4) (by omega)
              obtain ⟨v5, o5, f5⟩ := HQ.out.bL.cell (i := t * 7 + 5) (by omega)
              obtain ⟨v6, o6, f6⟩ := HQ.out.bL.cell (i := t * 7 + 6) (by omega)
              have st : ∀ (Z : World), Sw B W1.heap.size w Z g gL gW (.slice (some ⟨gL, 0, none⟩) M cL) (.slice aW T cW) us M → ∀ (j : Nat) (v : Value), Sw B W1.heap.size w (Z.setCell ⟨gL, j, none⟩ v) g gL gW (.slice (some ⟨gL, 0, none⟩) M cL) (.slice aW T cW) us M := fun Z h j v => h.set h.bL.tyd (by decide) (by decide) h.lR.1 h.lR.2 v
              have HSt := Lib.hid (st _ (st _ (st _ (st _ (st _ (st _ (st _ HQ.out (t * 7) (.slice none 0 0)) (t * 7 + 1) (.int .i64 (-8))) (t * 7 + 2) (.slice none 0 0)) (t * 7 + 3) (.int .i64 0)) (t * 7 + 4) (.int .i64 0)) (t * 7 + 5) (.int .i64 0)) (t * 7 + 6) (.slice none 0 0))
              clear st hMn
              go_wp2
              go_roundw
              case rel => exact ⟨t + 1, by omega, by go_num, HSt.out⟩
              case measure => simp only [intOf]; omega
            · have hgn : ¬ (t : Int) < (N : Int) := by omega
              go_wp2
              go_ret
              exact ⟨rfl, HQ.out.fr⟩
end Go.Proofs.YthhkpkfpifllkaaGreat

namespace Go.Proofs.YthhkpkfpifllkaaGreat
open Go.RowKit Go.Maps
set_option linter.unusedVariables false

theorem evals_setC {xs : List EntD} {s c : Nat} {y y' : EntD} {v : Value} (hs : xs[s]? = some y) (hc : c < 7) (hy : y'.cells.toList = y.cells.toList.set c v) : evals (xs.set s y') = (evals xs).set (s * 7 + c) v := by
  have l7 : ∀ z : EntD, z.cells.toList.length = 7 := fun z => rfl
  induction xs generalizing s with
  | nil => simp at hs
  | cons x xs ih =>
    cases s with
    | zero =>
      simp only [List.getElem?_cons_zero, Option.some.injEq] at hs
      subst hs
      show y'.cells.toList ++ evals xs = (x.cells.toList ++ evals xs).set (0 * 7 + c) v
      rw [List.set_append_left _ _ (by rw [l7]; omega), hy, Nat.zero_mul, Nat.zero_add]
    | succ s =>
      simp only [List.getElem?_cons_succ] at hs
      show x.cells.toList ++ evals (xs.set s y') = (x.cells.toList ++ evals xs).set ((s + 1) * 7 + c) v
      rw [ih hs, List.set_append_right _ _ (by rw [l7]; omega), l7, show (s + 1) * 7 + c - 7 = s * 7 + c by omega]
def BentP (B B1 g : Nat) (us : List Value) (vL vW : Value) (n : Nat) (w w' : World) : Prop := ∃ ys' : List EntD, ys'.length = n ∧ Rm B w' g ys' ys'.length (ys' ++ [endE]) us vL vW ∧ Fz B B1 w w' ∧ (∀ y ∈ ys', ShrtW y) ∧ (∀ y ∈ ys', ByE y.dat)
end Go.Proofs.YthhkpkfpifllkaaGreat
