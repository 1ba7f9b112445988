import Derived.Test.YtganmnckdmkcbaaGreatK05
import Derived.Maps.AppendAt
namespace Go.Proofs.YtganmnckdmkcbaaGreat
open Go.RowKit
set_option linter.unusedVariables false
variable {W0 W : World} {wb g rb : Nat} {fv : Value} {fs : List FamD} {clock : Int} {T : World → (Nat → Prop) → List Vd → Prop} {O : Nat → Prop} {s : SpD} {vs : List Vd} {e : EntD}
def Goes (W0 : World) (wb g rb : Nat) (fv : Value) (fs : List FamD) (clock : Int) (T : World → (Nat → Prop) → List Vd → Prop) (vs : List Vd) (t : Sp) (l : EntD) (r : Ending) (W' : World) : Prop := r = .returned (.tuple #[]) ∧ ∃ O' s', Wk W0 wb g rb fv fs clock T W' O' s' vs ∧ s'.dat = t ∧ s'.last = l
def mt (fs : List FamD) : List (Int × Int) := fs.map fun f => (f.mx, f.tl)

set_option maxRecDepth 100000 in
set_option maxHeartbeats 4000000 in
theorem resolve_any (ht : Teller g rb T) (h : Wk W0 wb g rb fv fs clock T W O s vs) (hv : vs.length < 1353245080339) (hfs : ∀ f ∈ fs, 0 ≤ f.tl ∧ f.tl ≤ 1099511627776) (hr : s.rank ≤ vs.length) (hwb : s.waiting = true → s.begun = true) (kind : Int) :
    Calls Tryz.prog 122 #[.pointer (some ⟨wb, 0, none⟩), .int .i64 kind] W (Goes W0 wb g rb fv fs clock T (vs ++ (resolveS (mt fs) clock s.dat kind).1) (resolveS (mt fs) clock s.dat kind).2 s.last) := by
  by_cases hw : s.waiting = true
  · have hFit := h.wait (hwb hw)
    have hok := h.ok
    obtain ⟨aL, nL, cL, eL⟩ := rd_slice hok.1
    obtain ⟨aQ, nQ, cQ, eQ⟩ := rd_slice hok.2.1
    obtain ⟨aV, nV, cV, eV⟩ := rd_slice hok.2.2
    have HEL := Lib.hid (And.intro eL (And.intro eQ eV))
    have K1 := h.put ht (h.box.setWaiting false) (grown1 _ _ _ _) rfl h.rank h.mask h.wait
    obtain ⟨Y, hY⟩ : ∃ Y, Y = W.setCell ⟨wb, 14, none⟩ (.bool false) := ⟨_, rfl⟩
    rw [← hY] at K1
    have HY := Lib.hid hY
    have c14 := h.box.c14
    have f14 := h.box.fz 14
    rw [hw] at c14
    obtain ⟨D, hD⟩ : ∃ D : EntD, D = { s.last with seq := s.seq, kind := kind } := ⟨_, rfl⟩
    have HD := Lib.hid hD
    have HT := Lib.hid ht
    have HW := Lib.hid hw
    have HFit : Hid (Fit fs.length D.dat) := by
      unfold Hid; rw [hD]
      exact ⟨hFit.row, hFit.qual, hFit.val, hFit.ts0, hFit.ts, hFit.fam0, hFit.fam⟩
    have HK1 := Lib.hid K1
    have HFs := Lib.hid hfs
    clear hY h hw hwb hok hFit K1 hD ht hfs eL eQ eV
    go_enter Tryz.func122, Tryz.ntmps122
    go_upto_region 2 with fail
    rw [← HY.out]
    clear c14 f14 HY
    have l7 := HK1.out.box.last7
    have c15 := HK1.out.box.c15
    obtain ⟨e1, e2, e3⟩ := HEL.out
    simp only at l7 c15
    rw [e1, e2, e3] at l7
    obtain ⟨l0, l1, l2, l3, l4, l5, l6⟩ := l7
    have A := (Below.refl Y.heap.size Y).alloc (Nat.le_refl _) (.cells #[.slice aL nL cL, .int .i64 s.last.fam, .slice aQ nQ cQ, .int .i64 s.last.ts, .int .i64 s.seq, .int .i64 kind, .slice aV nV cV] 84)
    have HC : Hid (Calls Tryz.prog 123 #[.pointer (some ⟨wb, 0, none⟩), .agg #[.slice aL nL cL, .int .i64 s.last.fam, .slice aQ nQ cQ, .int .i64 s.last.ts, .int .i64 s.seq, .int .i64 kind, .slice aV nV cV]] (Y.alloc (.cells #[.slice aL nL cL, .int .i64 s.last.fam, .slice aQ nQ cQ, .int .i64 s.last.ts, .int .i64 s.seq, .int .i64 kind, .slice aV nV cV] 84)) (Goes W0 wb g rb fv fs clock T (vs ++ [(decideS (mt fs) clock { s.dat with waiting := false } D.dat).1]) (decideS (mt fs) clock { s.dat with waiting := false } D.dat).2 s.last)) := by
      have k := decide_any HT.out (HK1.out.later HT.out A) (e := D) (by rw [HD.out]; exact (HK1.out.later HT.out A).ok) HFit.out hv HFs.out hr
      have ec : D.cells = #[.slice aL nL cL, .int .i64 s.last.fam, .slice aQ nQ cQ, .int .i64 s.last.ts, .int .i64 s.seq, .int .i64 kind, .slice aV nV cV] := by rw [HD.out]; unfold EntD.cells; simp only; rw [e1, e2, e3]
      rw [ec] at k
      exact k
    clear e1 e2 e3 A
    have hlt : wb < Y.heap.size := HK1.out.box.lt
    go_wp2_with fail
    refine Calls.mono HC.out ?_
    rintro z X2 ⟨rfl, O2, s2, K2, d2, l2'⟩
    have HK2 := Lib.hid (And.intro K2 (And.intro d2 l2'))
    clear l0 l1 l2 l3 l4 l5 l6 c15 K2 d2 l2' HC
    go_wp2
    go_end0
    obtain ⟨K2, d2, l2⟩ := HK2.out
    have ed : D.dat = { s.dat.last with seq := s.dat.seq, kind := kind } := by rw [HD.out]; rfl
    have eR : resolveS (mt fs) clock s.dat kind = ([(decideS (mt fs) clock { s.dat with waiting := false } D.dat).1], (decideS (mt fs) clock { s.dat with waiting := false } D.dat).2) := by
      unfold resolveS
      rw [if_pos (show s.dat.waiting = true from HW.out), ed]
    rw [eR]
    exact ⟨rfl, O2, s2, K2, d2, l2⟩
  · have hw2 : s.waiting = false := by simpa using hw
    have c14 := h.box.c14
    rw [hw2] at c14
    have HW := Lib.hid hw2
    have HK := Lib.hid h
    clear hw hw2 h hwb
    go_enter Tryz.func122, Tryz.ntmps122
    go_wp2
    refine bodyPost_ret (results_none rfl _ _ _) rfl ?_
    have eR : resolveS (mt fs) clock s.dat kind = ([], s.dat) := by
      unfold resolveS
      rw [if_neg (show ¬ s.dat.waiting = true from by show ¬ s.waiting = true; rw [HW.out]; simp)]
    rw [eR]
    exact ⟨rfl, O, s, by simpa using HK.out, rfl, rfl⟩
end Go.Proofs.YtganmnckdmkcbaaGreat

namespace Go.Proofs.YtganmnckdmkcbaaGreat
open Go.RowKit
set_option linter.unusedVariables false
variable {W0 W : World} {wb g rb : Nat} {fv : Value} {fs : List FamD} {clock : Int} {T : World → (Nat → Prop) → List Vd → Prop} {O : Nat → Prop} {s : SpD} {vs : List Vd} {e : EntD}
def GoesB (W0 : World) (wb g rb : Nat) (fv : Value) (fs : List FamD) (clock : Int) (T : World → (Nat → Prop) → List Vd → Prop) (b : Bool) (vs : List Vd) (t : Sp) (l : EntD) (r : Ending) (W' : World) : Prop := r = .returned (.bool b) ∧ ∃ O' s', Wk W0 wb g rb fv fs clock T W' O' s' vs ∧ s'.dat = t ∧ s'.last = l
theorem below_dn {X X1 : World} (h : Below X.heap.size X X1) (n : Nat) : Below X.heap.size X (X1.drewN n) := ⟨h.os, h.tape, h.output, h.size, h.block⟩
theorem below_rfl {W W' : World} (h1 : W'.os = W.os) (h2 : W'.tape = W.tape) (h3 : W'.output = W.output) (h4 : W'.heap = W.heap) : Below W.heap.size W W' := ⟨h1, h2, h3, by rw [h4]; exact Nat.le_refl _, fun k _ => by rw [h4]⟩

set_option maxRecDepth 100000 in
set_option maxHeartbeats 4000000 in
theorem enter_any (ht : Teller g rb T) (h : Wk W0 wb g rb fv fs clock T W O s vs) (he : EntD.Ok W e) (hv : vs.length < 1353245080339) (hfs : ∀ f ∈ fs, 0 ≤ f.tl ∧ f.tl ≤ 1099511627776) (hr : s.rank ≤ vs.length) (hwb : s.waiting = true → s.begun = true) :
    Calls Tryz.prog 120 #[.pointer (some ⟨wb, 0, none⟩), .agg e.cells] W (GoesB W0 wb g rb fv fs clock T (sameGrp s.dat e.dat) (vs ++ (enterS (mt fs) clock s.dat e.dat).1) (enterS (mt fs) clock s.dat e.dat).2 s.last) := by
  have A := (Below.refl W.heap.size W).alloc (Nat.le_refl _) (.cells e.cells 84)
  have eb := EBox.new W e
  have h1 := h.later ht A
  have he1 := he.later A
  obtain ⟨X, hX⟩ : ∃ X, X = W.alloc (.cells e.cells 84) := ⟨_, rfl⟩
  rw [← hX] at eb h1 he1
  have HX := Lib.hid hX
  have HT := Lib.hid ht
  have HFs := Lib.hid hfs
  have HWb := Lib.hid hwb
  clear hwb
  obtain ⟨qb, hqb⟩ : ∃ q, q = W.heap.size := ⟨_, rfl⟩
  have hqb' := hqb.symm
  rw [← hqb] at eb
  have HU : Hid (∀ Z, Below X.heap.size X Z → Wk W0 wb g rb fv fs clock T Z O s vs ∧ EBox Z qb e ∧ EntD.Ok Z e) := fun Z b => ⟨h1.later ht b, eb.later b, he1.later b⟩
  have HCs : Hid (∀ Z, Below X.heap.size X Z → (Z.cell? ⟨wb, 3, none⟩ = some (.bool s.begun) ∧ Z.cell? ⟨wb, 4, none⟩ = some s.last.vr ∧ Z.cell? ⟨wb, 5, none⟩ = some (.int .i64 s.last.fam) ∧ Z.cell? ⟨wb, 6, none⟩ = some s.last.vq ∧ Z.cell? ⟨wb, 7, none⟩ = some (.int .i64 s.last.ts) ∧ Z.cell? ⟨wb, 9, none⟩ = some (.int .i64 s.last.kind)) ∧ Z.cell? ⟨qb, 0, none⟩ = some e.vr ∧ Z.cell? ⟨qb, 1, none⟩ = some (.int .i64 e.fam) ∧ Z.cell? ⟨qb, 2, none⟩ = some e.vq ∧ Z.cell? ⟨qb, 3, none⟩ = some (.int .i64 e.ts)) := fun Z b => by
    obtain ⟨k1, k2, k3⟩ := HU.out Z b
    have l := k1.box.last7
    exact ⟨⟨k1.box.c3, l.1, l.2.1, l.2.2.1, l.2.2.2.1, l.2.2.2.2.2.1⟩, k2.vr, k2.fam, k2.vq, k2.ts⟩
  have HEq1 : Hid (∀ Z, Below X.heap.size X Z → Calls Tryz.prog 126 #[s.last.vr, e.vr] Z fun r w' => r = .returned (.bool (decide (s.last.row = e.row))) ∧ w' = Z) := fun Z b => equal_any (HU.out Z b).1.ok.1 (HU.out Z b).2.2.1
  have HEq2 : Hid (∀ Z, Below X.heap.size X Z → Calls Tryz.prog 126 #[s.last.vq, e.vq] Z fun r w' => r = .returned (.bool (decide (s.last.qual = e.qual))) ∧ w' = Z) := fun Z b => equal_any (HU.out Z b).1.ok.2.1 (HU.out Z b).2.2.2.1
  obtain ⟨fB, hfB⟩ : ∃ b, b = sameFam s.dat e.dat := ⟨_, rfl⟩
  obtain ⟨cB, hcB⟩ : ∃ b, b = sameCol s.dat e.dat := ⟨_, rfl⟩
  obtain ⟨gB, hgB⟩ : ∃ b, b = sameGrp s.dat e.dat := ⟨_, rfl⟩
  have HfB := Lib.hid hfB
  have HcB := Lib.hid hcB
  have HgB := Lib.hid hgB
  rw [← hgB]
  unfold EntD.cells at HX ⊢
  clear ht h he A hX eb h1 he1 hqb hfs hfB hcB hgB
  go_enter Tryz.func120, Tryz.ntmps120
  go_upto_region 1 with fail
  rw [← HX.out]
  (try rw [hqb'])
  clear hqb' HX
  go_cut [5] (fun c wx => c = .bool fB ∧ Hid (Below X.heap.size X wx))
  case first =>
    obtain ⟨⟨x3, x4, x5, x6, x7, x9⟩, y0, y1, y2, y3⟩ := HCs.out X (Below.refl _ _)
    by_cases hb : s.begun = true
    · rw [hb] at x3
      by_cases hf : s.last.fam = e.fam
      · have hfb : (s.last.fam == e.fam) = true := by simp [hf]
        have HF2 := Lib.hid hf
        clear hf
        go_quiet ((go_at_call 126; exact Calls.quiet_of_same (HEq1.out _ (below_rfl rfl rfl rfl rfl))))
        go_wp2_with fail
        go_meet
        refine ⟨?_, below_rfl rfl rfl rfl rfl⟩
        rw [HfB.out]
        show _ = Value.bool (s.begun && decide (s.last.fam = e.fam) && decide (s.last.row = e.row))
        rw [hb, decide_eq_true HF2.out]
        simp
      · have hfb : (s.last.fam == e.fam) = false := by simp [hf]
        have HF2 := Lib.hid hf
        clear hf
        go_quiet (fail)
        go_wp2_with fail
        go_meet
        refine ⟨?_, below_rfl rfl rfl rfl rfl⟩
        rw [HfB.out]
        show _ = Value.bool (s.begun && decide (s.last.fam = e.fam) && decide (s.last.row = e.row))
        rw [decide_eq_false HF2.out]
        simp
    · have hb2 : s.begun = false := by simpa using hb
      rw [hb2] at x3
      go_quiet (fail)
      go_wp2_with fail
      go_meet
      refine ⟨?_, below_rfl rfl rfl rfl rfl⟩
      rw [HfB.out]
      show _ = Value.bool (s.begun && decide (s.last.fam = e.fam) && decide (s.last.row = e.row))
      rw [hb2]
      simp
  case rest =>
  obtain ⟨rfl, HD1⟩ := hcut
  obtain ⟨X1, hX1⟩ : ∃ X1, X1 = wc := ⟨_, rfl⟩
  subst hX1
  go_upto_region 2 with fail
  go_cut [6] (fun c wx => c = .bool cB ∧ Hid (Below X.heap.size X wx))
  case first =>
    obtain ⟨⟨x3, x4, x5, x6, x7, x9⟩, y0, y1, y2, y3⟩ := HCs.out X1 HD1.out
    cases fB with
    | false =>
      go_quiet (fail)
      go_wp2_with fail
      go_meet
      refine ⟨?_, below_dn HD1.out _⟩
      rw [HcB.out]
      show _ = Value.bool (sameFam s.dat e.dat && decide (s.last.kind ≠ 5) && decide (s.last.qual = e.qual))
      rw [← HfB.out]
      simp
    | true =>
      by_cases hk : s.last.kind = 5
      · have hkb : (s.last.kind != 5) = false := by simp [hk]
        have hkb2 : (s.last.kind == 5) = true := by simp [hk]
        have HK5 := Lib.hid hk
        clear hk
        go_quiet (fail)
        go_wp2_with fail
        go_meet
        refine ⟨?_, below_dn HD1.out _⟩
        rw [HcB.out]
        show _ = Value.bool (sameFam s.dat e.dat && decide (s.last.kind ≠ 5) && decide (s.last.qual = e.qual))
        rw [decide_eq_false (fun h => h HK5.out)]
        simp
      · have hkb : (s.last.kind != 5) = true := by simp [hk]
        have hkb2 : (s.last.kind == 5) = false := by simp [hk]
        have HK5 := Lib.hid hk
        clear hk
        go_quiet ((go_at_call 126; exact Calls.quiet_of_same (HEq2.out _ (below_dn HD1.out _))))
        go_wp2_with fail
        go_meet
        refine ⟨?_, below_dn HD1.out _⟩
        rw [HcB.out]
        show _ = Value.bool (sameFam s.dat e.dat && decide (s.last.kind ≠ 5) && decide (s.last.qual = e.qual))
        rw [← HfB.out, decide_eq_true HK5.out]
        simp
  case rest =>
  obtain ⟨rfl, HD2⟩ := hcut
  obtain ⟨X2, hX2⟩ : ∃ X2, X2 = wc := ⟨_, rfl⟩
  subst hX2
  clear HD1
  go_upto_region 3 with fail
  go_cut [75] (fun c wx => c = .bool gB ∧ Hid (Below X.heap.size X wx))
  case first =>
    obtain ⟨⟨x3, x4, x5, x6, x7, x9⟩, y0, y1, y2, y3⟩ := HCs.out X2 HD2.out
    cases cB with
    | false =>
      go_quiet (fail)
      go_wp2_with fail
      go_meet
      refine ⟨?_, below_dn HD2.out _⟩
      rw [HgB.out]
      show _ = Value.bool (sameCol s.dat e.dat && decide (s.last.kind ≠ 4) && decide (s.last.ts = e.ts))
      rw [← HcB.out]
      simp
    | true =>
      by_cases hk : s.last.kind = 4
      · have hkb : (s.last.kind != 4) = false := by simp [hk]
        have hkb2 : (s.last.kind == 4) = true := by simp [hk]
        have HK5 := Lib.hid hk
        clear hk
        go_quiet (fail)
        go_wp2_with fail
        go_meet
        refine ⟨?_, below_dn HD2.out _⟩
        rw [HgB.out]
        show _ = Value.bool (sameCol s.dat e.dat && decide (s.last.kind ≠ 4) && decide (s.last.ts = e.ts))
        rw [decide_eq_false (fun h => h HK5.out)]
        simp
      · have hkb : (s.last.kind != 4) = true := by simp [hk]
        have hkb2 : (s.last.kind == 4) = false := by simp [hk]
        have HK5 := Lib.hid hk
        clear hk
        go_quiet (fail)
        go_wp2_with fail
        go_meet
        refine ⟨?_, below_dn HD2.out _⟩
        rw [HgB.out]
        show _ = Value.bool (sameCol s.dat e.dat && decide (s.last.kind ≠ 4) && decide (s.last.ts = e.ts))
        rw [← HcB.out, decide_eq_true HK5.out]
        by_cases hts : s.last.ts = e.ts <;> simp [hts]
  case rest =>
  obtain ⟨rfl, HD3⟩ := hcut
  obtain ⟨X3, hX3⟩ : ∃ X3, X3 = wc := ⟨_, rfl⟩
  subst hX3
  clear HD2
  have HK3 := Lib.hid (HU.out _ HD3.out).1
  clear HU HCs HEq1 HEq2
  cases gB with
  | true =>
    go_wp2
    go_ret
    have eR : enterS (mt fs) clock s.dat e.dat = ([], s.dat) := by unfold enterS; rw [if_pos HgB.out.symm]
    rw [eR]
    exact ⟨rfl, O, s, by simpa using HK3.out, rfl, rfl⟩
  | false =>
    have HC := Lib.hid (resolve_any HT.out HK3.out hv HFs.out hr HWb.out 3)
    have eR : enterS (mt fs) clock s.dat e.dat = ((resolveS (mt fs) clock s.dat 3).1, leftS (resolveS (mt fs) clock s.dat 3).2 fB cB) := by
      unfold enterS
      rw [if_neg (by rw [← HgB.out]; simp), ← HfB.out, ← HcB.out]
    have HR := Lib.hid eR
    clear eR
    go_wp2_with fail
    refine Calls.mono HC.out ?_
    rintro z X4 ⟨rfl, O4, s4, K4, d4, l4⟩
    clear HC
    have c11 := K4.box.c11
    have f11 := K4.box.fz 11
    have f12 := K4.box.fz 12
    have f13 := K4.box.fz 13
    have c12 := K4.box.c12
    have c13 := K4.box.c13
    have hvl : (vs ++ (resolveS (mt fs) clock s.dat 3).1).length = (vs ++ (resolveS (mt fs) clock s.dat 3).1).length := rfl
    have H4 := Lib.hid (And.intro K4 (And.intro d4 l4))
    clear K4 d4 l4 hvl
    cases fB with
    | true =>
      cases cB with
      | true =>
        go_wp2
        go_ret
        rw [HR.out]
        exact ⟨rfl, O4, s4, H4.out.1, H4.out.2.1, H4.out.2.2⟩
      | false =>
        have hG : X4.grownBy ((X4.setCell ⟨wb, 12, none⟩ (.int .i64 s4.family)).setCell ⟨wb, 13, none⟩ (.int .i64 0)) (some wb) := grown2 _ _ _ _ _ _
        have K5 := H4.out.1.put HT.out ((H4.out.1.box.setMask s4.family).setRank 0) hG rfl ⟨Int.le_refl 0, by show (0 : Int) ≤ _; omega⟩ ⟨H4.out.1.mask.2, H4.out.1.mask.2⟩ H4.out.1.wait
        have HK5 := Lib.hid K5
        clear K5 hG
        go_wp2
        go_ret
        rw [HR.out]
        refine ⟨rfl, O4, _, HK5.out, ?_, H4.out.2.2⟩
        unfold leftS
        rw [← H4.out.2.1]
        rfl
    | false =>
      cases cB with
      | true =>
        have hG : X4.grownBy (X4.setCell ⟨wb, 11, none⟩ (.int .i64 0)) (some wb) := grown1 _ _ _ _
        have K5 := H4.out.1.put HT.out (H4.out.1.box.setFamily 0) hG rfl H4.out.1.rank ⟨H4.out.1.mask.1, Int.le_refl 0⟩ H4.out.1.wait
        have HK5 := Lib.hid K5
        clear K5 hG
        go_wp2
        go_ret
        rw [HR.out]
        refine ⟨rfl, O4, _, HK5.out, ?_, H4.out.2.2⟩
        unfold leftS
        rw [← H4.out.2.1]
        rfl
      | false =>
        have hG : X4.grownBy (((X4.setCell ⟨wb, 11, none⟩ (.int .i64 0)).setCell ⟨wb, 12, none⟩ (.int .i64 0)).setCell ⟨wb, 13, none⟩ (.int .i64 0)) (some wb) := ⟨rfl, rfl, rfl, by simp, fun k hk hne => ((Below.heap_setCell _ _ _ _ (fun e => hne (by rw [e]))).trans (Below.heap_setCell _ _ _ _ (fun e => hne (by rw [e])))).trans (Below.heap_setCell _ _ _ _ (fun e => hne (by rw [e])))⟩
        have K5 := H4.out.1.put HT.out (((H4.out.1.box.setFamily 0).setMask 0).setRank 0) hG rfl ⟨Int.le_refl 0, by show (0 : Int) ≤ _; omega⟩ ⟨Int.le_refl 0, Int.le_refl 0⟩ H4.out.1.wait
        have HK5 := Lib.hid K5
        clear K5 hG
        go_wp2
        go_ret
        rw [HR.out]
        refine ⟨rfl, O4, _, HK5.out, ?_, H4.out.2.2⟩
        unfold leftS
        rw [← H4.out.2.1]
        rfl
end Go.Proofs.YtganmnckdmkcbaaGreat

namespace Go.Proofs.YtganmnckdmkcbaaGreat
open Go.RowKit
set_option linter.unusedVariables false

theorem app_run {w : World} {B n : Nat} {v src : Value} {xs bs : List Nat} (ty : TypeId) (hown : Own w B v n xs) (hrd : Rd w src bs) (hbytes : n + bs.length ≤ 140737488355328) (hB : B ≤ w.heap.size) :
    ∃ v' w', (Builtin.append_ #[82, 82] ty #[v, src]).run Tryz.prog w = .ok v' w' ∧ Own w' B v' (n + bs.length) (xs ++ bs) ∧ w.grownBy w' v.ownBlock ∧ (∀ k, v'.ownBlock = some k → v.ownBlock = some k ∨ k = w.heap.size) := by
  obtain ⟨i0, hi, hz0, hz1, hz2⟩ := info_parts info_byte
  obtain ⟨hby, a1, c1, rfl, hle, hm, hl48, hnone, hat⟩ := hrd
  cases a1 with
  | none =>
    have hb0 : bs = [] ∧ c1 = 0 := by
      rcases hnone with h | ⟨b, off, h⟩
      · exact ⟨List.eq_nil_of_length_eq_zero (by omega), h⟩
      · cases h
    obtain ⟨rfl, rfl⟩ := hb0
    exact ⟨v, w, run_append_owned_none (P := Tryz.prog) (w := w) B 82 ty 5 i0 1 und_bytes hi v n (bv xs) hown.2, by simpa using hown, World.grownBy.refl _ _, fun k hk => .inl hk⟩
  | some ad =>
    obtain ⟨v', w', hr, h2, h3, h4, h5⟩ := run_append_own_at (P := Tryz.prog) w B 82 ty 5 i0 (.int .u8 0) 1 1 und_bytes hi hz0 hz1 hz2 rfl (by decide) v n (bv xs) hown.2 ad bs.length c1 (bv bs) (by simp [bv]) hat.add (bv_oneCell bs) (by unfold maxLen; omega) (by omega) hB
    refine ⟨v', w', hr, ⟨by rw [hown.1]; simp, by simpa [bv] using h2⟩, h3, fun k hk => ?_⟩
    rcases h5 with h5 | h5
    · rw [h5] at hk; exact .inl hk
    · rw [h5] at hk; cases hk; exact .inr rfl
theorem step_append_rd {w : World} {ops : Array Oper} {o : Oper} {a : Act} {K : Act → World → Prop} {Q : Exit → Act → World → Prop} {E : Prop} (hgd : o.guard = none) (s x : Operand)
    (ho : o.op = .call { callee := .builtin .append, args := #[s, x], argTypes := #[82, 82] })
    {B n : Nat} {v src : Value} {xs bs : List Nat} (hs : a.eval s = v) (hown : Own w B v n xs) (hx : a.eval x = src) (hrd : Rd w src bs) (hbytes : n + bs.length ≤ 140737488355328) (hB : B ≤ w.heap.size)
    (h : ∀ a' c' w', Own w' B (.slice a' (n + bs.length) c') (n + bs.length) (xs ++ bs) → w.grownBy w' v.ownBlock → (∀ k, (Value.slice a' (n + bs.length) c').ownBlock = some k → v.ownBlock = some k ∨ k = w.heap.size) → K (a.put o.dst (.slice a' (n + bs.length) c')) w') :
    if Region.wanted o (yielded ops a.tmps) = true then Oper.wp Tryz.prog o a w K Q else E := by
  have hw : Region.wanted o (yielded ops a.tmps) = true := by simp [Region.wanted, hgd]
  rw [if_pos hw]
  obtain ⟨v', w', hrn, h1, h2, h3⟩ := app_run o.type hown hrd hbytes hB
  obtain ⟨a', c', rfl⟩ := own_form' h1
  unfold Oper.wp execOp
  rw [ho]
  simp only [resolve, invoke, builtin, Sem.run_bind, Sem.run_pure, Result.andThen_ok, List.map_toArray, List.map_cons, List.map_nil, hs, hx, hrn]
  exact h a' c' w' h1 h2 h3
theorem Own.cut0 {w : World} {B n c : Nat} {a : Option Addr} {xs : List Nat} (h : Own w B (.slice a n c) n xs) : Own w B (.slice a 0 c) 0 [] := by
  refine ⟨rfl, by simp [bv], ?_⟩
  rcases h.2.2 with ⟨h1, h2⟩ | ⟨g, cap, cur, h1, h2, h3, h4, h5, h6, h7⟩
  · simp only [Value.slice.injEq] at h1
    exact .inl ⟨by rw [h1.1, h1.2.2], rfl⟩
  · simp only [Value.slice.injEq] at h1
    exact .inr ⟨g, cap, cur, by rw [h1.1, h1.2.2], h2, h3, Nat.zero_le _, h5, h6, by simp [bv]⟩
structure Bf (W0 : World) (wb rb : Nat) (T : World → (Nat → Prop) → List Vd → Prop) (q : Nat) (Z : World) (O : Nat → Prop) (vs : List Vd) (u1 u2 u3 : Value) (l1 l2 l3 : List Nat) : Prop where
  tell : T Z O vs
  o1 : Own Z W0.heap.size u1 l1.length l1
  o2 : Own Z W0.heap.size u2 l2.length l2
  o3 : Own Z W0.heap.size u3 l3.length l3
  a12 : ∀ k, u1.ownBlock = some k → u2.ownBlock ≠ some k
  a13 : ∀ k, u1.ownBlock = some k → u3.ownBlock ≠ some k
  a23 : ∀ k, u2.ownBlock = some k → u3.ownBlock ≠ some k
  apO : ∀ k, u1.ownBlock = some k ∨ u2.ownBlock = some k ∨ u3.ownBlock = some k → ¬ O k ∧ k ≠ q
  ql : q < Z.heap.size
  os : Z.os = W0.os
  tape : Z.tape = W0.tape
  output : Z.output = W0.output
  fr : Fr0 W0 wb rb Z
section
variable {W0 W Z Z' : World} {wb g rb q : Nat} {fv : Value} {fs : List FamD} {clock : Int} {T : World → (Nat → Prop) → List Vd → Prop} {O : Nat → Prop} {s : SpD} {vs : List Vd} {u1 u2 u3 v : Value} {l1 l2 l3 l : List Nat}
theorem Bf.app1 (ht : Teller g rb T) (h : Bf W0 wb rb T q Z O vs u1 u2 u3 l1 l2 l3) (ho : Own Z' W0.heap.size v l.length l) (hg : Z.grownBy Z' u1.ownBlock) (hl : ∀ k, v.ownBlock = some k → u1.ownBlock = some k ∨ k = Z.heap.size) : Bf W0 wb rb T q Z' O vs v u2 u3 l l2 l3 := by
  have n2 := fun k hk => (h.o2.2.lt k hk).2
  have n3 := fun k hk => (h.o3.2.lt k hk).2
  have lo := fun k hk => (h.o1.2.lt k hk).1
  refine ⟨ht.keep h.tell (fun i hi => hg.block i (ht.lt h.tell hi) (fun e => (h.apO i (.inl e.symm)).1 hi)) hg.size, ho, own_same h.o2 (fun k hk => hg.block k (n2 k hk) (fun e => h.a12 k e.symm hk)), own_same h.o3 (fun k hk => hg.block k (n3 k hk) (fun e => h.a13 k e.symm hk)), fun k hk e => ?_, fun k hk e => ?_, h.a23, fun k hk => ?_, Nat.lt_of_lt_of_le h.ql hg.size, hg.os.trans h.os, hg.tape.trans h.tape, hg.output.trans h.output, Nat.le_trans h.fr.1 hg.size, fun i hi k1 k2 => ?_⟩
  · rcases hl k hk with h1 | h1
    · exact h.a12 k h1 e
    · have := n2 k e; omega
  · rcases hl k hk with h1 | h1
    · exact h.a13 k h1 e
    · have := n3 k e; omega
  · rcases hk with hk | hk
    · rcases hl k hk with h1 | h1
      · exact h.apO k (.inl h1)
      · exact ⟨fun o => by have := ht.lt h.tell o; omega, by have := h.ql; omega⟩
    · exact h.apO k (.inr hk)
  · rw [hg.block i (Nat.lt_of_lt_of_le hi h.fr.1) (fun e => by have := lo i e.symm; omega)]
    exact h.fr.2 i hi k1 k2
theorem Bf.turn (h : Bf W0 wb rb T q Z O vs u1 u2 u3 l1 l2 l3) : Bf W0 wb rb T q Z O vs u2 u3 u1 l2 l3 l1 :=
  ⟨h.tell, h.o2, h.o3, h.o1, h.a23, fun k hk e => h.a12 k e hk, fun k hk e => h.a13 k e hk, fun k hk => h.apO k (by rcases hk with hk | hk | hk; exact .inr (.inl hk); exact .inr (.inr hk); exact .inl hk), h.ql, h.os, h.tape, h.output, h.fr⟩
theorem Bf.put (ht : Teller g rb T) (h : Bf W0 wb rb T q Z O vs u1 u2 u3 l1 l2 l3) (hg : Z.grownBy Z' (some wb)) (hw : wb < W0.heap.size) (hO : ¬ O wb) : Bf W0 wb rb T q Z' O vs u1 u2 u3 l1 l2 l3 := by
  have nb : ∀ {u : Value} {m : Nat} {xs : List Nat}, Own Z W0.heap.size u m xs → Own Z' W0.heap.size u m xs := fun o => own_same o (fun k hk => hg.block k (o.2.lt k hk).2 (fun e => by have := (o.2.lt k hk).1; cases e; omega))
  refine ⟨ht.keep h.tell (fun i hi => hg.block i (ht.lt h.tell hi) (fun e => by cases e; exact hO hi)) hg.size, nb h.o1, nb h.o2, nb h.o3, h.a12, h.a13, h.a23, h.apO, Nat.lt_of_lt_of_le h.ql hg.size, hg.os.trans h.os, hg.tape.trans h.tape, hg.output.trans h.output, Nat.le_trans h.fr.1 hg.size, fun i hi k1 k2 => ?_⟩
  rw [hg.block i (Nat.lt_of_lt_of_le hi h.fr.1) (fun e => by cases e; exact k1 rfl)]
  exact h.fr.2 i hi k1 k2
theorem Bf.later (ht : Teller g rb T) (h : Bf W0 wb rb T q Z O vs u1 u2 u3 l1 l2 l3) (k : Below Z.heap.size Z Z') (hw : wb < W0.heap.size) (hO : ¬ O wb) : Bf W0 wb rb T q Z' O vs u1 u2 u3 l1 l2 l3 :=
  h.put ht ⟨k.os, k.tape, k.output, k.size, fun i hi _ => k.block i hi⟩ hw hO
end
end Go.Proofs.YtganmnckdmkcbaaGreat

namespace Go.Proofs.YtganmnckdmkcbaaGreat
open Go.RowKit
set_option linter.unusedVariables false
variable {W0 W : World} {wb g rb : Nat} {fv : Value} {fs : List FamD} {clock : Int} {T : World → (Nat → Prop) → List Vd → Prop} {O : Nat → Prop} {s : SpD} {vs : List Vd} {e : EntD}

theorem own_len3 {w : World} {B m c n : Nat} {a : Option Addr} {xs : List Nat} (h : Own w B (.slice a m c) n xs) : m = n := by
  rcases h.2.2 with ⟨h1, h2⟩ | ⟨g, cap, cur, h1, _⟩
  · simp only [Value.slice.injEq] at h1; omega
  · simp only [Value.slice.injEq] at h1; exact h1.2.1
theorem WBx.setAll {w : World} {b : Nat} {fv tv : Value} {clock : Int} {s : SpD} (h : WBx w b fv clock tv s) (e : EntD) : WBx ((((((((w.setCell ⟨b, 3, none⟩ (.bool true)).setCell ⟨b, 4, none⟩ e.vr).setCell ⟨b, 5, none⟩ (.int .i64 e.fam)).setCell ⟨b, 6, none⟩ e.vq).setCell ⟨b, 7, none⟩ (.int .i64 e.ts)).setCell ⟨b, 8, none⟩ (.int .i64 e.seq)).setCell ⟨b, 9, none⟩ (.int .i64 e.kind)).setCell ⟨b, 10, none⟩ e.vv) b fv clock tv { s with begun := true, last := e } := by
  have h1 := h.set (i := 3) (v := .bool true) (s' := { s with begun := true }) rfl
  have h2 := h1.set (i := 4) (v := e.vr) (s' := { s with begun := true, last := { s.last with vr := e.vr } }) rfl
  have h3 := h2.set (i := 5) (v := .int .i64 e.fam) (s' := { s with begun := true, last := { s.last with vr := e.vr, fam := e.fam } }) rfl
  have h4 := h3.set (i := 6) (v := e.vq) (s' := { s with begun := true, last := { s.last with vr := e.vr, fam := e.fam, vq := e.vq } }) rfl
  have h5 := h4.set (i := 7) (v := .int .i64 e.ts) (s' := { s with begun := true, last := { s.last with vr := e.vr, fam := e.fam, vq := e.vq, ts := e.ts } }) rfl
  have h6 := h5.set (i := 8) (v := .int .i64 e.seq) (s' := { s with begun := true, last := { s.last with vr := e.vr, fam := e.fam, vq := e.vq, ts := e.ts, seq := e.seq } }) rfl
  have h7 := h6.set (i := 9) (v := .int .i64 e.kind) (s' := { s with begun := true, last := { s.last with vr := e.vr, fam := e.fam, vq := e.vq, ts := e.ts, seq := e.seq, kind := e.kind } }) rfl
  exact h7.set (i := 10) (v := e.vv) (s' := { s with begun := true, last := e }) rfl
theorem g_trans {a b c : World} {o : Option Nat} (h : a.grownBy b o) (k : b.grownBy c o) : a.grownBy c o := ⟨k.os.trans h.os, k.tape.trans h.tape, k.output.trans h.output, Nat.le_trans h.size k.size, fun i hi hne => (k.block i (Nat.lt_of_lt_of_le hi h.size) hne).trans (h.block i hi hne)⟩
theorem grown8 (w : World) (b i1 i2 i3 i4 i5 i6 i7 i8 : Nat) (v1 v2 v3 v4 v5 v6 v7 v8 : Value) : w.grownBy ((((((((w.setCell ⟨b, i1, none⟩ v1).setCell ⟨b, i2, none⟩ v2).setCell ⟨b, i3, none⟩ v3).setCell ⟨b, i4, none⟩ v4).setCell ⟨b, i5, none⟩ v5).setCell ⟨b, i6, none⟩ v6).setCell ⟨b, i7, none⟩ v7).setCell ⟨b, i8, none⟩ v8) (some b) :=
  g_trans (g_trans (g_trans (g_trans (g_trans (g_trans (g_trans (grown1 _ b i1 v1) (grown1 _ b i2 v2)) (grown1 _ b i3 v3)) (grown1 _ b i4 v4)) (grown1 _ b i5 v5)) (grown1 _ b i6 v6)) (grown1 _ b i7 v7)) (grown1 _ b i8 v8)
theorem own_blk (a : Option Addr) (n m c d : Nat) : (Value.slice a n c).ownBlock = (Value.slice a m d).ownBlock := by cases a <;> rfl
theorem ebox_set {w : World} {q b i : Nat} {v : Value} {e : EntD} (h : EBox w q e) (hne : q ≠ b) : EBox (w.setCell ⟨b, i, none⟩ v) q e := (Below.heap_setCell _ _ _ _ (fun z => hne (by rw [z]))).trans h
theorem drew_heap (w : World) (b : Nat) : w.drew.heap[b]? = w.heap[b]? := rfl

set_option maxRecDepth 100000 in
set_option maxHeartbeats 4000000 in
theorem remember_any (ht : Teller g rb T) (h : Wk W0 wb g rb fv fs clock T W O s vs) (he : ∀ Z, Fr0 W0 wb rb Z → EntD.Ok Z e) (hf : Fit fs.length e.dat) :
    Calls Tryz.prog 124 #[.pointer (some ⟨wb, 0, none⟩), .agg e.cells] W fun r W' => r = .returned (.tuple #[]) ∧ ∃ s', Wk W0 wb g rb fv fs clock T W' O s' vs ∧ s'.dat = rememberS s.dat e.dat := by
  have heW := he W h.fr
  obtain ⟨vr, fam, vq, ts, sq, kd, vv, row, qual, val⟩ := e
  obtain ⟨ar, nr, cr, er⟩ := rd_slice heW.1
  obtain ⟨aq, nq, cq, eq⟩ := rd_slice heW.2.1
  obtain ⟨av, nv, cv, ev⟩ := rd_slice heW.2.2
  simp only at er eq ev
  subst er eq ev
  have hok := h.ok
  obtain ⟨aL, nL, cL, eL⟩ := rd_slice hok.1
  obtain ⟨aQ, nQ, cQ, eQ⟩ := rd_slice hok.2.1
  obtain ⟨aV, nV, cV, eV⟩ := rd_slice hok.2.2
  have HL : Hid (nL ≤ cL ∧ nQ ≤ cQ ∧ nV ≤ cV ∧ cL ≤ maxLen ∧ cQ ≤ maxLen ∧ cV ≤ maxLen) := by
    obtain ⟨_, a1, c1, k1, k2, k3, _⟩ := hok.1
    obtain ⟨_, a2, c2, j1, j2, j3, _⟩ := hok.2.1
    obtain ⟨_, a3, c3, i1, i2, i3, _⟩ := hok.2.2
    rw [eL] at k1; rw [eQ] at j1; rw [eV] at i1
    simp only [Value.slice.injEq] at k1 j1 i1
    obtain ⟨_, rfl, rfl⟩ := k1
    obtain ⟨_, rfl, rfl⟩ := j1
    obtain ⟨_, rfl, rfl⟩ := i1
    exact ⟨k2, j2, i2, k3, j3, i3⟩
  have A := (Below.refl W.heap.size W).alloc (Nat.le_refl _) (.cells #[.slice ar nr cr, .int .i64 fam, .slice aq nq cq, .int .i64 ts, .int .i64 sq, .int .i64 kd, .slice av nv cv] 84)
  have eb := EBox.new W (⟨.slice ar nr cr, fam, .slice aq nq cq, ts, sq, kd, .slice av nv cv, row, qual, val⟩ : EntD)
  have h1 := h.later ht A
  obtain ⟨qb, hqb⟩ : ∃ q, q = W.heap.size := ⟨_, rfl⟩
  have hqb' := hqb.symm
  unfold EntD.cells at eb ⊢
  simp only at eb
  obtain ⟨X, hX⟩ : ∃ X, X = W.alloc (.cells #[.slice ar nr cr, .int .i64 fam, .slice aq nq cq, .int .i64 ts, .int .i64 sq, .int .i64 kd, .slice av nv cv] 84) := ⟨_, rfl⟩
  rw [← hX] at eb h1
  have HX := Lib.hid hX
  have HT := Lib.hid ht
  have HF := Lib.hid hf
  have HE := Lib.hid he
  rw [← hqb] at eb
  have H1 := Lib.hid h1
  have HEb := Lib.hid eb
  have hqW : W0.heap.size ≤ qb ∧ ¬ O qb ∧ qb ≠ wb := by rw [hqb]; exact ⟨h.fr.1, h.fresh ht (Nat.le_refl _), by have := h.wlow; have := h.fr.1; omega⟩
  have HqW := Lib.hid hqW
  have HLl : Hid (∀ k, s.last.vr.ownBlock = some k ∨ s.last.vq.ownBlock = some k ∨ s.last.vv.ownBlock = some k → k ≠ qb) := fun k hk => by have := (h.lastlt k hk).2; omega
  have HEL := Lib.hid (And.intro eL (And.intro eQ eV))
  have c4 := h1.box.last7.1
  have c6 := h1.box.last7.2.2.1
  have c10 := h1.box.last7.2.2.2.2.2.2
  rw [eL] at c4
  rw [eQ] at c6
  rw [eV] at c10
  obtain ⟨n1, n2, n3, m1, m2, m3⟩ := HL.out
  unfold maxLen at m1 m2 m3
  clear ht h he hf A hX h1 eb hqb heW hok hqW eL eQ eV HL
  go_enter Tryz.func124, Tryz.ntmps124
  go_upto_region 1 with fail
  rw [← HX.out]
  (try rw [hqb'])
  clear hqb' HX
  go_cut [4, 5, 6] (fun p4 p5 p6 wx => p4 = .slice aL 0 cL ∧ p5 = .slice aQ 0 cQ ∧ p6 = .slice aV 0 cV ∧ Hid (Below X.heap.size X wx))
  case first =>
    go_quiet (fail)
    go_wp2_with fail
    go_meet
    exact ⟨rfl, rfl, rfl, below_rfl rfl rfl rfl rfl⟩
  case rest =>
  obtain ⟨rfl, rfl, rfl, HD1⟩ := hcut
  obtain ⟨X1, hX1⟩ : ∃ X1, X1 = wc := ⟨_, rfl⟩
  subst hX1
  clear c4 c6 c10
  have K1 := H1.out.later HT.out HD1.out
  have HK1 := Lib.hid K1
  have HEb1 := Lib.hid (HEb.out.later HD1.out)
  clear K1 H1 HEb HD1
  have c3 := HK1.out.box.c3
  obtain ⟨c4, c5, c6, c7, c8, c9, c10⟩ := HK1.out.box.last7
  obtain ⟨e1, e2, e3⟩ := HEL.out
  rw [e1] at c4
  rw [e2] at c6
  rw [e3] at c10
  clear e1 e2 e3
  have f3 := HK1.out.box.fz 3
  have f4 := HK1.out.box.fz 4
  have f5 := HK1.out.box.fz 5
  have f6 := HK1.out.box.fz 6
  have f7 := HK1.out.box.fz 7
  have f8 := HK1.out.box.fz 8
  have f9 := HK1.out.box.fz 9
  have f10 := HK1.out.box.fz 10
  have y := HEb1.out.cells7
  simp only at y
  obtain ⟨y0, y1, y2, y3, y4, y5, y6⟩ := y
  have hne : wb ≠ qb := HqW.out.2.2.symm
  have hne' : qb ≠ wb := HqW.out.2.2
  go_upto_region 2 with fail
  go_region
  have hG : X1.grownBy (((((((((X1.setCell ⟨wb, 3, none⟩ (.bool true)).setCell ⟨wb, 4, none⟩ (.slice ar nr cr)).setCell ⟨wb, 5, none⟩ (.int .i64 fam)).setCell ⟨wb, 6, none⟩ (.slice aq nq cq)).setCell ⟨wb, 7, none⟩ (.int .i64 ts)).setCell ⟨wb, 8, none⟩ (.int .i64 sq)).setCell ⟨wb, 9, none⟩ (.int .i64 kd)).setCell ⟨wb, 10, none⟩ (.slice av nv cv)).drew) (some wb) := (grown8 _ _ _ _ _ _ _ _ _ _ _ _ _ _ _ _ _ _).drew
  have B2 : WBx (((((((((X1.setCell ⟨wb, 3, none⟩ (.bool true)).setCell ⟨wb, 4, none⟩ (.slice ar nr cr)).setCell ⟨wb, 5, none⟩ (.int .i64 fam)).setCell ⟨wb, 6, none⟩ (.slice aq nq cq)).setCell ⟨wb, 7, none⟩ (.int .i64 ts)).setCell ⟨wb, 8, none⟩ (.int .i64 sq)).setCell ⟨wb, 9, none⟩ (.int .i64 kd)).setCell ⟨wb, 10, none⟩ (.slice av nv cv)).drew) wb fv clock (.func (.func g) #[.pointer (some ⟨rb, 0, none⟩)] #[]) { s with begun := true, last := (⟨.slice ar nr cr, fam, .slice aq nq cq, ts, sq, kd, .slice av nv cv, row, qual, val⟩ : EntD) } := (HK1.out.box.setAll (⟨.slice ar nr cr, fam, .slice aq nq cq, ts, sq, kd, .slice av nv cv, row, qual, val⟩ : EntD)).keep (drew_heap _ _)
  have E2 : EBox (((((((((X1.setCell ⟨wb, 3, none⟩ (.bool true)).setCell ⟨wb, 4, none⟩ (.slice ar nr cr)).setCell ⟨wb, 5, none⟩ (.int .i64 fam)).setCell ⟨wb, 6, none⟩ (.slice aq nq cq)).setCell ⟨wb, 7, none⟩ (.int .i64 ts)).setCell ⟨wb, 8, none⟩ (.int .i64 sq)).setCell ⟨wb, 9, none⟩ (.int .i64 kd)).setCell ⟨wb, 10, none⟩ (.slice av nv cv)).drew) qb (⟨.slice ar nr cr, fam, .slice aq nq cq, ts, sq, kd, .slice av nv cv, row, qual, val⟩ : EntD) := (hG.block qb (Array.getElem?_eq_some_iff.1 HEb1.out).1 (fun z => hne' (by cases z; rfl))).trans HEb1.out
  have hlo : ∀ k, s.last.vr.ownBlock = some k ∨ s.last.vq.ownBlock = some k ∨ s.last.vv.ownBlock = some k → ¬ O k ∧ k ≠ qb := fun k hk => ⟨HK1.out.apO k hk, HLl.out k hk⟩
  obtain ⟨e1, e2, e3⟩ := HEL.out
  have o1 := HK1.out.own.1
  have o2 := HK1.out.own.2.1
  have o3 := HK1.out.own.2.2
  have ap := HK1.out.apart
  rw [e1] at o1 ap hlo
  rw [e2] at o2 ap hlo
  rw [e3] at o3 ap hlo
  have hw0 := HK1.out.wlow.1
  have hOw := HK1.out.notO
  have en1 := own_len3 o1
  have en2 := own_len3 o2
  have en3 := own_len3 o3
  rw [← en1] at o1
  rw [← en2] at o2
  rw [← en3] at o3
  have F1 : Bf W0 wb rb T qb X1 O vs (.slice aL 0 cL) (.slice aQ 0 cQ) (.slice aV 0 cV) [] [] [] := ⟨HK1.out.tell, o1.cut0, o2.cut0, o3.cut0, fun k hk => by rw [own_blk aQ 0 nQ cQ cQ]; exact (ap.1 k (by rw [own_blk aL nL 0 cL cL]; exact hk)).1, fun k hk => by rw [own_blk aV 0 nV cV cV]; exact (ap.1 k (by rw [own_blk aL nL 0 cL cL]; exact hk)).2, fun k hk => by rw [own_blk aV 0 nV cV cV]; exact ap.2 k (by rw [own_blk aQ nQ 0 cQ cQ]; exact hk), fun k hk => hlo k (by rw [own_blk aL nL 0 cL cL, own_blk aQ nQ 0 cQ cQ, own_blk aV nV 0 cV cV]; exact hk), (Array.getElem?_eq_some_iff.1 HEb1.out).1, HK1.out.os, HK1.out.tape, HK1.out.output, HK1.out.fr⟩
  have F2 := F1.put HT.out hG hw0 hOw
  obtain ⟨X2, hX2⟩ : ∃ X2, X2 = ((((((((X1.setCell ⟨wb, 3, none⟩ (.bool true)).setCell ⟨wb, 4, none⟩ (.slice ar nr cr)).setCell ⟨wb, 5, none⟩ (.int .i64 fam)).setCell ⟨wb, 6, none⟩ (.slice aq nq cq)).setCell ⟨wb, 7, none⟩ (.int .i64 ts)).setCell ⟨wb, 8, none⟩ (.int .i64 sq)).setCell ⟨wb, 9, none⟩ (.int .i64 kd)).setCell ⟨wb, 10, none⟩ (.slice av nv cv)).drew := ⟨_, rfl⟩
  rw [← hX2] at B2 E2 F2
  have HX2 := Lib.hid hX2
  have HB2 := Lib.hid B2
  have HE2 := Lib.hid E2
  have HF2 := Lib.hid F2
  have Hw := Lib.hid (And.intro hw0 hOw)
  clear hX2 hG B2 E2 F2 F1 hlo o1 o2 o3 ap e1 e2 e3 hw0 hOw en1 en2 en3
  clear c3 c4 c5 c6 c7 c8 c9 c10 f3 f4 f5 f6 f7 f8 f9 f10 y0 y1 y2 y3 y4 y5 y6
  go_upto_region 3 with fail
  rw [← HX2.out]
  clear HX2
  have D3 : Below X2.heap.size X2 X2.drew := (Below.refl _ _).drew
  have HF3 := Lib.hid (HF2.out.later HT.out D3 Hw.out.1 Hw.out.2)
  have HE3 := Lib.hid (HE2.out.later D3)
  have HB3 := Lib.hid (HB2.out.later D3)
  have z0 := HE3.out.vr
  have z2 := HE3.out.vq
  have z6 := HE3.out.vv
  simp only at z0 z2 z6
  have HS3 : Hid (∀ Z, EBox Z qb (⟨.slice ar nr cr, fam, .slice aq nq cq, ts, sq, kd, .slice av nv cv, row, qual, val⟩ : EntD) → Z.cell? ⟨qb, 0, none⟩ = some (.slice ar nr cr) ∧ Z.cell? ⟨qb, 2, none⟩ = some (.slice aq nq cq) ∧ Z.cell? ⟨qb, 6, none⟩ = some (.slice av nv cv)) := fun Z h => ⟨h.vr, h.vq, h.vv⟩
  have HEr : Hid (∀ Z, Fr0 W0 wb rb Z → Rd Z (.slice ar nr cr) row ∧ Rd Z (.slice aq nq cq) qual ∧ Rd Z (.slice av nv cv) val) := HE.out
  have hL : row.length ≤ 256 ∧ qual.length ≤ 256 ∧ val.length ≤ 4096 := ⟨HF.out.row, HF.out.qual, HF.out.val⟩
  obtain ⟨hL1, hL2, hL3⟩ := hL
  have s1 : ([] ++ row).length = 0 + row.length := by simp
  have s2 : ([] ++ qual).length = 0 + qual.length := by simp
  have s3 : ([] ++ val).length = 0 + val.length := by simp
  have HFl := Lib.hid (And.intro s1 (And.intro s2 s3))
  clear s1 s2 s3
  go_region_held3 (fun Z => Z.cell? ⟨qb, 0, none⟩ = some (.slice ar nr cr) ∧ Z.cell? ⟨qb, 2, none⟩ = some (.slice aq nq cq) ∧ Z.cell? ⟨qb, 6, none⟩ = some (.slice av nv cv)) (first | exact HS3.out _ (ebox_set (ebox_set (ebox_set E6 hne') hne') hne') | exact HS3.out _ (ebox_set (ebox_set E6 hne') hne') | exact HS3.out _ (ebox_set E6 hne') | exact HS3.out _ E6 | exact HS3.out _ E5 | exact HS3.out _ E4 | exact ⟨z0, z2, z6⟩)
    (first
      | (refine step_append_rd (n := 0) (xs := []) rfl (.tmp 40) (.tmp 42) rfl rfl HF3.out.o1 rfl (HEr.out _ HF3.out.fr).1 (by omega) HF3.out.fr.1 ?_; intro a4 c4 w4 ow4 gr4 lo4; have F4 := HF3.out.app1 HT.out (by rw [HFl.out.1]; exact ow4) gr4 lo4; have E4 : EBox w4 qb (⟨.slice ar nr cr, fam, .slice aq nq cq, ts, sq, kd, .slice av nv cv, row, qual, val⟩ : EntD) := (gr4.block qb (Array.getElem?_eq_some_iff.1 HE3.out).1 (fun z => (HF3.out.apO qb (.inl z.symm)).2 rfl)).trans HE3.out; have B4 := HB3.out.keep (gr4.block wb HB3.out.lt (fun z => by have := (HF3.out.o1.2.lt wb z.symm).1; have := Hw.out.1; omega)))
      | (refine step_append_rd (n := 0) (xs := []) rfl (.tmp 44) (.tmp 46) rfl rfl F4.o2 rfl (HEr.out _ F4.fr).2.1 (by omega) F4.fr.1 ?_; intro a5 c5 w5 ow5 gr5 lo5; have F5 := F4.turn.app1 HT.out (by rw [HFl.out.2.1]; exact ow5) gr5 lo5; have E5 : EBox w5 qb (⟨.slice ar nr cr, fam, .slice aq nq cq, ts, sq, kd, .slice av nv cv, row, qual, val⟩ : EntD) := (gr5.block qb (Array.getElem?_eq_some_iff.1 E4).1 (fun z => (F4.apO qb (.inr (.inl z.symm))).2 rfl)).trans E4; have B5 := B4.keep (gr5.block wb B4.lt (fun z => by have := (F4.o2.2.lt wb z.symm).1; have := Hw.out.1; omega)))
      | (refine step_append_rd (n := 0) (xs := []) rfl (.tmp 48) (.tmp 50) rfl rfl F5.o2 rfl (HEr.out _ F5.fr).2.2 (by omega) F5.fr.1 ?_; intro a6 c6 w6 ow6 gr6 lo6; have F6 := F5.turn.app1 HT.out (by rw [HFl.out.2.2]; exact ow6) gr6 lo6; have E6 : EBox w6 qb (⟨.slice ar nr cr, fam, .slice aq nq cq, ts, sq, kd, .slice av nv cv, row, qual, val⟩ : EntD) := (gr6.block qb (Array.getElem?_eq_some_iff.1 E5).1 (fun z => (F5.apO qb (.inr (.inl z.symm))).2 rfl)).trans E5; have B6 := B5.keep (gr6.block wb B5.lt (fun z => by have := (F5.o2.2.lt wb z.symm).1; have := Hw.out.1; omega)); have y4 := B6.last7.1; have y6 := B6.last7.2.2.1; have y10 := B6.last7.2.2.2.2.2.2; have g4 := B6.fz 4; have g6 := B6.fz 6; have g10 := B6.fz 10))
  have hG : w6.grownBy (((w6.setCell ⟨wb, 4, none⟩ (.slice a4 row.length c4)).setCell ⟨wb, 6, none⟩ (.slice a5 qual.length c5)).setCell ⟨wb, 10, none⟩ (.slice a6 val.length c6)) (some wb) := g_trans (g_trans (grown1 _ _ _ _) (grown1 _ _ _ _)) (grown1 _ _ _ _)
  have F7 := F6.turn.put HT.out hG Hw.out.1 Hw.out.2
  have b1 := B6.set (i := 4) (v := .slice a4 row.length c4) (s' := { s with begun := true, last := { (⟨.slice ar nr cr, fam, .slice aq nq cq, ts, sq, kd, .slice av nv cv, row, qual, val⟩ : EntD) with vr := .slice a4 row.length c4 } }) rfl
  have b2 := b1.set (i := 6) (v := .slice a5 qual.length c5) (s' := { s with begun := true, last := { (⟨.slice ar nr cr, fam, .slice aq nq cq, ts, sq, kd, .slice av nv cv, row, qual, val⟩ : EntD) with vr := .slice a4 row.length c4, vq := .slice a5 qual.length c5 } }) rfl
  have b3 := b2.set (i := 10) (v := .slice a6 val.length c6) (s' := { s with begun := true, last := ⟨.slice a4 row.length c4, fam, .slice a5 qual.length c5, ts, sq, kd, .slice a6 val.length c6, row, qual, val⟩ }) rfl
  have HFin := Lib.hid (And.intro F7 b3)
  obtain ⟨V, hV⟩ : ∃ V, V = ((w6.setCell ⟨wb, 4, none⟩ (.slice a4 row.length c4)).setCell ⟨wb, 6, none⟩ (.slice a5 qual.length c5)).setCell ⟨wb, 10, none⟩ (.slice a6 val.length c6) := ⟨_, rfl⟩
  rw [← hV] at HFin
  have HV := Lib.hid hV
  clear hV hG F7 b1 b2 b3 F4 F5 F6 E4 E5 E6 B4 B5 B6 y4 y6 y10 g4 g6 g10 ow4 ow5 ow6 gr4 gr5 gr6 lo4 lo5 lo6 z0 z2 z6
  go_wp2
  go_end0
  rw [← HV.out]
  obtain ⟨F, B⟩ := HFin.out
  simp only [List.nil_append, Nat.zero_add] at F
  have hok := HEr.out _ F.fr
  exact ⟨rfl, _, ⟨B, HK1.out.fam, F.tell, ⟨F.o1, F.o2, F.o3⟩, ⟨fun k hk => ⟨F.a12 k hk, F.a13 k hk⟩, F.a23⟩, fun k hk => (F.apO k hk).1, HK1.out.low, HK1.out.wlow, HK1.out.rank, HK1.out.mask, ⟨hok.1.1, hok.2.1.1, hok.2.2.1⟩, ⟨hL1, hL2, hL3⟩, fun _ => HF.out, F.os, F.tape, F.output, F.fr⟩, rfl⟩
end Go.Proofs.YtganmnckdmkcbaaGreat

namespace Go.Proofs.YtganmnckdmkcbaaGreat
open Go.RowKit
set_option linter.unusedVariables false

def TE (T : World → (Nat → Prop) → List Vd → Prop) (q : Nat) (o : Obj) : World → (Nat → Prop) → List Vd → Prop := fun W O vs => W.heap[q]? = some o ∧ O q ∧ T W (fun i => O i ∧ i ≠ q) vs
section
variable {W0 W : World} {wb g rb q : Nat} {fv : Value} {fs : List FamD} {clock : Int} {T : World → (Nat → Prop) → List Vd → Prop} {O : Nat → Prop} {s : SpD} {vs : List Vd} {o : Obj}
theorem Teller.ext (ht : Teller g rb T) : Teller g rb (TE T q o) := by
  refine ⟨ht.enters, fun h hk hs => ⟨(hk q h.2.1).trans h.1, h.2.1, ht.keep h.2.2 (fun i hi => hk i hi.1) hs⟩, fun {W O vs i} h hi => ?_, fun {W O vs e} ft rk {n} h he hf hv => ?_⟩
  · by_cases e : i = q
    · subst e; exact (Array.getElem?_eq_some_iff.1 h.1).1
    · exact ht.lt h.2.2 ⟨hi, e⟩
  · have hq := (Array.getElem?_eq_some_iff.1 h.1).1
    refine (ht.say ft rk h.2.2 he hf hv).mono ?_
    rintro r W' ⟨rfl, O1, t1, f1⟩
    have n1 : ¬ O1 q := fun k => by
      rcases f1.own q k with k1 | k1
      · exact k1.2 rfl
      · omega
    have e1 : (fun i => ((O1 i ∧ i ≠ q) ∨ i = q) ∧ i ≠ q) = O1 := by
      funext i
      refine propext ⟨fun k => ?_, fun k => ⟨.inl ⟨k, fun e => n1 (by rw [← e]; exact k)⟩, fun e => n1 (by rw [← e]; exact k)⟩⟩
      rcases k with ⟨k | k, k2⟩
      · exact k.1
      · exact absurd k k2
    refine ⟨rfl, fun i => (O1 i ∧ i ≠ q) ∨ i = q, ⟨(f1.block q hq (fun k => k.2 rfl)).trans h.1, .inr rfl, ?_⟩, ⟨f1.os, f1.tape, f1.output, f1.size, fun i hi hn => f1.block i hi (fun k => hn k.1), fun i k => ?_⟩⟩
    · rw [e1]; exact t1
    · rcases k with k | k
      · rcases f1.own i k.1 with k1 | k1
        · exact .inl k1.1
        · exact .inr k1
      · subst k; exact .inl h.2.1
theorem Wk.ext (h : Wk W0 wb g rb fv fs clock T W O s vs) (hq : W.heap[q]? = some o) (h1 : ¬ O q) (h2 : W0.heap.size ≤ q) (h3 : ∀ k, s.last.vr.ownBlock = some k ∨ s.last.vq.ownBlock = some k ∨ s.last.vv.ownBlock = some k → k ≠ q) : Wk W0 wb g rb fv fs clock (TE T q o) W (fun i => O i ∨ i = q) s vs := by
  have e1 : (fun i => (O i ∨ i = q) ∧ i ≠ q) = O := by
    funext i
    refine propext ⟨fun k => ?_, fun k => ⟨.inl k, fun e => h1 (by rw [← e]; exact k)⟩⟩
    rcases k with ⟨k | k, k2⟩
    · exact k
    · exact absurd k k2
  refine ⟨h.box, h.fam, ⟨hq, .inr rfl, by rw [e1]; exact h.tell⟩, h.own, h.apart, fun k hk e => ?_, fun i k => ?_, h.wlow, h.rank, h.mask, h.bys, h.few, h.wait, h.os, h.tape, h.output, h.fr⟩
  · rcases e with e | e
    · exact h.apO k hk e
    · exact h3 k hk e
  · rcases k with k | k
    · exact h.low i k
    · subst k; exact .inr h2
theorem Wk.unext (h : Wk W0 wb g rb fv fs clock (TE T q o) W O s vs) : Wk W0 wb g rb fv fs clock T W (fun i => O i ∧ i ≠ q) s vs :=
  ⟨h.box, h.fam, h.tell.2.2, h.own, h.apart, fun k hk e => h.apO k hk e.1, fun i k => h.low i k.1, h.wlow, h.rank, h.mask, h.bys, h.few, h.wait, h.os, h.tape, h.output, h.fr⟩
theorem decide_rank (fs : List (Int × Int)) (clock : Int) (s : Sp) (e : En) : (decideS fs clock s e).2.rank ≤ s.rank + 1 := by
  unfold decideS
  repeat' split
  all_goals simp only
  all_goals omega
theorem resolve_rank (fs : List (Int × Int)) (clock : Int) (s : Sp) (k : Int) : (resolveS fs clock s k).2.rank ≤ s.rank + (resolveS fs clock s k).1.length ∧ (resolveS fs clock s k).1.length ≤ 1 := by
  unfold resolveS
  split
  · have := decide_rank fs clock { s with waiting := false } { s.last with seq := s.seq, kind := k }
    simp only at this
    simp only [List.length_cons, List.length_nil]
    exact ⟨by omega, by omega⟩
  · simp
theorem left_rank (s : Sp) (f c : Bool) (h : 0 ≤ s.rank) : (leftS s f c).rank ≤ s.rank ∧ 0 ≤ (leftS s f c).rank := by
  unfold leftS
  cases f <;> cases c <;> simp <;> omega
theorem decide_rank0 (fs : List (Int × Int)) (clock : Int) (s : Sp) (e : En) (h : 0 ≤ s.rank) : 0 ≤ (decideS fs clock s e).2.rank := by
  unfold decideS
  repeat' split
  all_goals simp only
  all_goals omega
theorem resolve_rank0 (fs : List (Int × Int)) (clock : Int) (s : Sp) (k : Int) (h : 0 ≤ s.rank) : 0 ≤ (resolveS fs clock s k).2.rank := by
  unfold resolveS
  split
  · exact decide_rank0 _ _ _ _ h
  · exact h
theorem enter_rank (fs : List (Int × Int)) (clock : Int) (s : Sp) (e : En) (h : 0 ≤ s.rank) : (enterS fs clock s e).2.rank ≤ s.rank + (enterS fs clock s e).1.length ∧ (enterS fs clock s e).1.length ≤ 1 := by
  unfold enterS
  split
  · simp
  · have h1 := resolve_rank fs clock s 3
    have h2 := left_rank (resolveS fs clock s 3).2 (sameFam s e) (sameCol s e) (resolve_rank0 _ _ _ _ h)
    simp only
    exact ⟨by omega, h1.2⟩
theorem stretch_rank (s : Sp) (e : En) : (stretchS s e).2.rank = s.rank := by
  unfold stretchS
  split <;> rfl
theorem step_rank (fs : List (Int × Int)) (clock : Int) (s : Sp) (e : En) (h : 0 ≤ s.rank) : (stepS fs clock s e).2.rank ≤ s.rank + (stepS fs clock s e).1.length ∧ (stepS fs clock s e).1.length ≤ 2 := by
  have h1 := enter_rank fs clock s e h
  have h2 := resolve_rank fs clock (enterS fs clock s e).2 2
  have h3 := decide_rank fs clock (enterS fs clock s e).2 e
  have h4 := stretch_rank (enterS fs clock s e).2 e
  unfold stepS rememberS
  split
  · simp only [List.length_append, List.length_cons, List.length_nil]
    exact ⟨by omega, by omega⟩
  · split
    · have hz : (enterS fs clock s e).1 = [] := by unfold enterS; rw [if_pos (by assumption)]
      split
      · simp only [List.length_append, List.length_cons, List.length_nil]
        rw [hz] at h1 ⊢
        simp only [List.length_nil] at h1 ⊢
        exact ⟨by omega, by omega⟩
      · simp only [List.length_append, List.length_cons, List.length_nil]
        exact ⟨by omega, by omega⟩
    · split
      · simp only
        exact ⟨by omega, by omega⟩
      · simp only [List.length_append, List.length_cons, List.length_nil]
        exact ⟨by omega, by omega⟩
end
end Go.Proofs.YtganmnckdmkcbaaGreat
