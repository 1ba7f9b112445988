import Derived.Test.YthhkpkfpifllkaaGreatK14
import Derived.Deep.CutRange
import Derived.Deep.DeepAppendRoom
namespace Go.Proofs.YthhkpkfpifllkaaGreat
open Go.RowKit Go.Maps
set_option linter.unusedVariables false

set_option maxRecDepth 100000 in
set_option maxHeartbeats 4000000 in
theorem refMask_any {w : World} {a : Option Addr} {cap : Nat} {l : List EntD} {e : EntD} (hl : RdL3 w a cap l) (he : EntD.Ok w e) (h3 : e.kind ≤ 3) (hn : l.length ≤ 1353245080300) :
    Calls Tryz.prog 90 #[.slice a l.length cap, .agg e.cells] w fun r w' => r = .returned (.int .i64 (maskOf (l.map EntD.dat) e.dat)) ∧ Below w.heap.size w w' := by
  obtain ⟨W, hW, A, hb, -⟩ := box1 w e
  obtain ⟨N, hN⟩ : ∃ N, N = l.length := ⟨_, rfl⟩
  obtain ⟨R, hR⟩ : ∃ R, R = maskOf (l.map EntD.dat) e.dat := ⟨_, rfl⟩
  have hc := hl.cap
  rw [← hN] at hn hc ⊢
  rw [← hR]
  have HW := Lib.hid hW
  have HA := Lib.hid A
  have HN := Lib.hid hN
  have HR := Lib.hid hR
  have HB := Lib.hid hb
  have H0 := Lib.hid (fun (Z : World) (b : Below W.heap.size W Z) => hl.later (A.trans (b.mono A.size)))
  have H1 := Lib.hid (fun (Z : World) (b : Below W.heap.size W Z) => he.later (A.trans (b.mono A.size)))
  have H3 := Lib.hid h3
  unfold EntD.cells at HW ⊢
  clear hW A hb hN hR hl he h3
  go_enter Tryz.func90, Tryz.ntmps90
  go_upto_region 1 with fail
  rw [← HW.out]
  clear HW
  go_wp2
  go_loopw [5, 6, 7, 8] (fun m i _ _ wr => ∃ t : Nat, t ≤ N ∧ i = .int .i64 (t : Int) ∧ m = .int .i64 (maskOf ((l.take t).map EntD.dat) e.dat) ∧ Hid (Below W.heap.size W wr)) (fun _ i _ _ _ => N - (intOf i).toNat)
  case atStart => exact ⟨0, Nat.zero_le _, rfl, by simp [maskOf], Below.refl _ _⟩
  case round =>
    obtain ⟨t, ht, rfl, rfl, HBw⟩ := hrel
    have t0 : (0 : Int) ≤ (t : Int) := by omega
    obtain ⟨M, hM⟩ : ∃ M, M = maskOf ((l.take t).map EntD.dat) e.dat := ⟨_, rfl⟩
    rw [← hM]
    have HM := Lib.hid hM
    clear hM
    by_cases hlt : t < N
    · have hlt2 : (t : Int) < (N : Int) := by omega
      obtain ⟨x, hx⟩ : ∃ x, l[t]? = some x := ⟨l[t]'(by rw [← HN.out]; exact hlt), List.getElem?_eq_getElem _⟩
      have hrd := H0.out _ HBw.out
      have hok := hrd.ok x (List.mem_of_getElem? hx)
      rcases hrd.at_ with h0 | ⟨b, off, rfl, hc⟩
      · rw [h0] at hx; simp at hx
      have d0 := hc t x hx 0 _ rfl
      have d1 := hc t x hx 1 _ rfl
      have d2 := hc t x hx 2 _ rfl
      have d3 := hc t x hx 3 _ rfl
      have d4 := hc t x hx 4 _ rfl
      have d5 := hc t x hx 5 _ rfl
      have d6 := hc t x hx 6 _ rfl
      simp only [Nat.add_zero] at d0
      obtain ⟨_, a1, n1, e1, -⟩ := id hok.1
      obtain ⟨_, a2, n2, e2, -⟩ := id hok.2.1
      obtain ⟨_, a3, n3, e3, -⟩ := id hok.2.2
      obtain ⟨X, hX, AX, hbx, -⟩ := box1 wr x
      have HXb := Lib.hid (And.intro AX (And.intro hbx (And.intro hok HBw.out)))
      unfold EntD.cells at hX
      rw [e1, e2, e3] at hX
      rw [e1] at d0
      rw [e2] at d2
      rw [e3] at d6
      have HX := Lib.hid hX
      have HXx := Lib.hid hx
      have HS : Hid (maskOf ((l.take (t + 1)).map EntD.dat) e.dat = if cover x.dat e.dat then max M x.ts else M) := by
        unfold Hid
        rw [List.take_add_one, hx, List.map_append, HM.out]
        exact maskOf_snoc _ x.dat e.dat
      clear hrd hok hc hx hX AX hbx e1 e2 e3
      go_upto_region 6 with fail
      rw [← HX.out]
      clear HX d0 d1 d2 d3 d4 d5 d6
      obtain ⟨AX, hbx, hok, hbw⟩ := HXb.out
      have hBX : Below W.heap.size W X := hbw.trans (AX.mono hbw.size)
      have KS : Hid (∀ Z, Below X.heap.size X Z → EBox Z wr.heap.size x ∧ EBox Z w.heap.size e ∧ EntD.Ok Z x ∧ EntD.Ok Z e) := fun Z k => ⟨hbx Z k, HB.out Z (hBX.trans (k.mono hBX.size)), (hok.later AX).later k, H1.out Z (hBX.trans (k.mono hBX.size))⟩
      have HBX := Lib.hid hBX
      clear AX hbx hok hbw hBX
      obtain ⟨cv, hcv⟩ : ∃ cv, cv = cover x.dat e.dat := ⟨_, rfl⟩
      have HCv : Hid (cv = (if x.kind = 5 then decide (x.fam = e.fam) && decide (x.row = e.row) else if x.kind = 4 then mates x.dat e.dat else false)) := by
        unfold Hid
        rw [hcv, Bool.eq_iff_iff, cover_iff]
        have h3 := H3.out
        by_cases k5 : x.kind = 5
        · rw [if_pos k5]
          simp only [Bool.and_eq_true, decide_eq_true_eq, EntD.dat]
          exact ⟨fun h => ⟨h.2.1, h.1⟩, fun h => ⟨h.2, h.1, .inl k5⟩⟩
        · rw [if_neg k5]
          by_cases k4 : x.kind = 4
          · rw [if_pos k4, mates_iff]
            simp only [EntD.dat]
            exact ⟨fun h => ⟨h.1, h.2.1, (h.2.2.resolve_left k5).2.2⟩, fun h => ⟨h.1, h.2.1, .inr ⟨k4, by omega, h.2.2⟩⟩⟩
          · rw [if_neg k4]
            simp only [EntD.dat]
            exact ⟨fun h => (h.2.2.elim (fun z => absurd z k5) (fun z => absurd z.1 k4)), fun h => by cases h⟩
      have HCc := Lib.hid hcv
      clear hcv
      go_cut [8] from 9 to 54 (fun s wx => s = .bool cv ∧ Hid (Below X.heap.size X wx))
      case first =>
        obtain ⟨b1, b2, o1, o2⟩ := KS.out _ (Below.refl _ _)
        have x0 := b1.vr
        have x1 := b1.fam
        have x2 := b1.vq
        have x3 := b1.ts
        have x4 := b1.seq
        have x5 := b1.kind
        have x6 := b1.vv
        have y0 := b2.vr
        have y1 := b2.fam
        have y2 := b2.vq
        have y3 := b2.ts
        have y4 := b2.seq
        have y5 := b2.kind
        have y6 := b2.vv
        have HAr : Hid (Calls Tryz.prog 78 #[x.vr, e.vr] X fun r w' => r = .returned (.bool (decide (x.row = e.row))) ∧ w' = X) := alike_any o1.1 o2.1
        have HMt : Hid (Calls Tryz.prog 55 #[.agg x.cells, .agg e.cells] X _) := mates_any o1 o2
        unfold EntD.cells at HMt
        clear b1 b2 o1 o2
        by_cases k5 : x.kind = 5
        · have q5 : (x.kind == 5) = true := by simpa using k5
          have q4 : (x.kind == 4) = false := by simp [k5]
          by_cases cf : x.fam = e.fam
          · have qf : (x.fam == e.fam) = true := by simpa using cf
            by_cases cr : x.row = e.row
            · rw [decide_eq_true cr] at HAr
              have q : Hid (cv = true) := by unfold Hid; rw [HCv.out]; simp [k5, cf, cr]
              clear k5 cf cr HCv
              go_wp2_with (go_at_call 78; refine Calls.mono HAr.out ?_; rintro r w' ⟨rfl, rfl⟩)
              go_meet
              case rel => exact ⟨by rw [q.out], Below.refl _ _⟩
            · rw [decide_eq_false cr] at HAr
              have q : Hid (cv = false) := by unfold Hid; rw [HCv.out]; simp [k5, cr]
              clear k5 cf cr HCv
              go_wp2_with (go_at_call 78; refine Calls.mono HAr.out ?_; rintro r w' ⟨rfl, rfl⟩)
              go_meet
              case rel => exact ⟨by rw [q.out], Below.refl _ _⟩
          · have qf : (x.fam == e.fam) = false := by simpa using cf
            have q : Hid (cv = false) := by unfold Hid; rw [HCv.out]; simp [k5, cf]
            clear k5 cf HCv
            go_wp2_with fail
            go_meet
            case rel => exact ⟨by rw [q.out], Below.refl _ _⟩
        · have q5 : (x.kind == 5) = false := by simpa using k5
          by_cases k4 : x.kind = 4
          · have q4 : (x.kind == 4) = true := by simpa using k4
            have q : Hid (cv = mates x.dat e.dat) := by unfold Hid; rw [HCv.out]; simp [k4]
            clear k5 k4 HCv
            go_wp2_with fail
            refine Calls.mono HMt.out ?_
            rintro r w' ⟨rfl, b9⟩
            have B9 := Lib.hid b9
            obtain ⟨mm, hmm⟩ : ∃ mm, mm = mates x.dat e.dat := ⟨_, rfl⟩
            rw [← hmm]
            have q' : Hid (cv = mm) := by unfold Hid; rw [q.out, hmm]
            clear b9 hmm q
            go_wp2
            go_meet
            case rel => exact ⟨by rw [q'.out], B9.out⟩
          · have q4 : (x.kind == 4) = false := by simpa using k4
            have q : Hid (cv = false) := by unfold Hid; rw [HCv.out]; simp [k5, k4]
            clear k5 k4 HCv
            go_wp2_with fail
            go_meet
            case rel => exact ⟨by rw [q.out], Below.refl _ _⟩
      case rest =>
        obtain ⟨rfl, HBc⟩ := hcut
        obtain ⟨b1, b2, o1, o2⟩ := KS.out _ HBc.out
        have x3 := b1.ts
        have HBr := Lib.hid (HBX.out.trans (HBc.out.mono HBX.out.size))
        clear b1 b2 o1 o2
        rw [← HCc.out] at HS
        cases cv with
        | true =>
          by_cases cm : M < x.ts
          · have q : Hid (maskOf ((l.take (t + 1)).map EntD.dat) e.dat = x.ts) := by unfold Hid; rw [HS.out]; simp; omega
            go_wp2
            go_roundw
            case rel => exact ⟨t + 1, by omega, by go_num, by rw [q.out], HBr.out⟩
            case measure => simp only [intOf]; omega
          · have q : Hid (maskOf ((l.take (t + 1)).map EntD.dat) e.dat = M) := by unfold Hid; rw [HS.out]; simp; omega
            go_wp2
            go_roundw
            case rel => exact ⟨t + 1, by omega, by go_num, by rw [q.out], HBr.out⟩
            case measure => simp only [intOf]; omega
        | false =>
          have q : Hid (maskOf ((l.take (t + 1)).map EntD.dat) e.dat = M) := by unfold Hid; rw [HS.out]; simp
          go_wp2
          go_roundw
          case rel => exact ⟨t + 1, by omega, by go_num, by rw [q.out], HBr.out⟩
          case measure => simp only [intOf]; omega
    · have hge : ¬ (t : Int) < (N : Int) := by omega
      have q : Hid (M = R) := by unfold Hid; rw [HM.out, HR.out, List.take_of_length_le (by rw [← HN.out]; omega)]
      go_wp2
      go_ret
      exact ⟨by rw [q.out]; rfl, HA.out.trans (HBw.out.mono HA.out.size)⟩
end Go.Proofs.YthhkpkfpifllkaaGreat

namespace Go.Proofs.YthhkpkfpifllkaaGreat
open Go.RowKit Go.Maps
set_option linter.unusedVariables false

theorem box_se (w : World) (fa : Option Addr) (K fc : Nat) (e : EntD) : ∃ W, W = (w.alloc (.cells #[.slice fa K fc] 27)).alloc (.cells e.cells 84) ∧ Below w.heap.size w W ∧ (∀ Z, Below W.heap.size W Z → Z.cell? ⟨w.heap.size, 0, none⟩ = some (.slice fa K fc) ∧ EBox Z (w.heap.size + 1) e) := by
  obtain ⟨X0, hX0, A1, hc⟩ := sch_box w fa K fc
  obtain ⟨W, hW, A2, hb, -⟩ := box1 X0 e
  have sz : X0.heap.size = w.heap.size + 1 := by rw [hX0]; simp
  refine ⟨W, by rw [hW, hX0], A1.trans (A2.mono A1.size), fun Z k => ⟨hc Z (A2.trans (k.mono A2.size)), ?_⟩⟩
  have := hb Z k
  rw [sz] at this
  exact this
theorem fam_cell {w : World} {fa : Option Addr} {fc : Nat} {fs : List FamD} (hr : RdF w (.slice fa fs.length fc) fs) {k : Nat} (hk : k < fs.length) : ∃ b off fd, fa = some ⟨b, off, none⟩ ∧ fs[k]? = some fd ∧ ∀ Z, Below w.heap.size w Z → Z.cell? ⟨b, off + k * 3 + 1, none⟩ = some (.int .i64 fd.mx) ∧ Z.cell? ⟨b, off + k * 3 + 2, none⟩ = some (.int .i64 fd.tl) := by
  obtain ⟨a', c', e, _, _, _, h5⟩ := id hr
  rcases h5 with h5 | ⟨b, off, q, _⟩
  · rw [h5] at hk; simp at hk
  · simp only [Value.slice.injEq] at e
    obtain ⟨fd, hfd⟩ : ∃ fd, fs[k]? = some fd := ⟨fs[k], List.getElem?_eq_getElem _⟩
    refine ⟨b, off, fd, e.1.trans q, hfd, fun Z k' => ?_⟩
    obtain ⟨a2, c2, e2, _, _, _, h6⟩ := hr.later k'
    rcases h6 with h6 | ⟨b2, off2, q2, hc2⟩
    · rw [h6] at hk; simp at hk
    · simp only [Value.slice.injEq] at e2
      have := (e.1.trans q).symm.trans (e2.1.trans q2)
      cases this
      exact ⟨(hc2 k fd hfd).2.1, (hc2 k fd hfd).2.2⟩
theorem fam_mt {fs : List FamD} {k : Nat} {fd : FamD} (h : fs[k]? = some fd) : famAt (mt fs) (k : Int) = (fd.mx, fd.tl) := by
  unfold famAt mt
  rw [List.getD_eq_getElem?_getD, List.getElem?_map]
  simp [h]
structure UndE (fs : List FamD) (e : EntD) : Prop where
  f0 : 0 ≤ e.fam
  fK : e.fam < fs.length
  t1 : 1 ≤ e.ts
  t2 : e.ts ≤ 1099511627776
set_option maxRecDepth 100000 in
set_option maxHeartbeats 4000000 in
theorem refExpired_any {w : World} {fa : Option Addr} {fc : Nat} {fs : List FamD} {e : EntD} (clock : Int) (hr : RdF w (.slice fa fs.length fc) fs) (hu : UndE fs e) (hf : ∀ f ∈ fs, 0 ≤ f.tl ∧ f.tl ≤ 1099511627776) :
    Calls Tryz.prog 91 #[.agg #[.slice fa fs.length fc], .int .i64 clock, .agg e.cells] w fun r w' => r = .returned (.bool (expS (mt fs) clock e.dat)) ∧ Below w.heap.size w w' := by
  obtain ⟨W, hW, A, hb⟩ := box_se w fa fs.length fc e
  obtain ⟨kf, hkf⟩ : ∃ kf : Nat, e.fam = (kf : Int) := ⟨e.fam.toNat, by have := hu.f0; omega⟩
  have hkl : kf < fs.length := by have := hu.fK; omega
  obtain ⟨b, off, fd, rfl, hfd, hc⟩ := fam_cell hr hkl
  obtain ⟨E, hE⟩ : ∃ E, E = expS (mt fs) clock e.dat := ⟨_, rfl⟩
  have hEv : E = decide (0 < fd.tl ∧ e.ts + fd.tl ≤ clock) := by
    rw [hE]
    unfold expS
    show decide (0 < (famAt (mt fs) e.fam).2 ∧ e.ts + (famAt (mt fs) e.fam).2 ≤ clock) = _
    rw [hkf, fam_mt hfd]
  have hb2 := hf fd (List.mem_of_getElem? hfd)
  obtain ⟨c1, e1⟩ := hb W (Below.refl _ _)
  have y1 := e1.fam
  rw [hkf] at y1
  have y3 := e1.ts
  have z2 := (hc W A).2
  have t1 := hu.t1
  have t2 := hu.t2
  obtain ⟨K, hK⟩ : ∃ K, K = fs.length := ⟨_, rfl⟩
  rw [← hK] at c1 hW hkl
  rw [← hE, ← hK]
  have HW := Lib.hid hW
  have HA := Lib.hid A
  have HE := Lib.hid hEv
  have k0 : (0 : Int) ≤ (kf : Int) := by omega
  have kK : (kf : Int) < (K : Int) := by omega
  have wr0 : IntKind.i64.wrap (e.ts + fd.tl) = e.ts + fd.tl := by simp [IntKind.wrap, IntKind.bits, IntKind.signed]; omega
  unfold EntD.cells at HW ⊢
  clear hW A hb hkf hfd hc hE hEv hb2 e1 hu hf hr hK
  go_enter Tryz.func91, Tryz.ntmps91
  go_upto_region 1 with fail
  rw [← HW.out]
  clear HW
  by_cases c0 : 0 < fd.tl
  · have d0 : decide (0 < fd.tl) = true := decide_eq_true c0
    by_cases c2 : e.ts + fd.tl ≤ clock
    · have d2 : decide (e.ts + fd.tl ≤ clock) = true := decide_eq_true c2
      have q : Hid (E = true) := by unfold Hid; rw [HE.out]; simp [c0, c2]
      clear c2 HE
      go_wp2
      go_ret
      exact ⟨by rw [q.out]; rfl, HA.out⟩
    · have d2 : decide (e.ts + fd.tl ≤ clock) = false := decide_eq_false c2
      have q : Hid (E = false) := by unfold Hid; rw [HE.out]; simp [c2]
      clear c2 HE
      go_wp2
      go_ret
      exact ⟨by rw [q.out]; rfl, HA.out⟩
  · have d0 : decide (0 < fd.tl) = false := decide_eq_false c0
    have q : Hid (E = false) := by unfold Hid; rw [HE.out]; simp [c0]
    clear HE
    go_wp2
    go_ret
    exact ⟨by rw [q.out]; rfl, HA.out⟩
def inB (fs : List FamD) (clock : Int) (m : List En) (e : En) : Bool := decide (maskOf m e < e.ts) && !expS (mt fs) clock e
set_option maxRecDepth 100000 in
set_option maxHeartbeats 4000000 in
theorem refIn_any {w : World} {fa a : Option Addr} {fc cap : Nat} {fs : List FamD} {l : List EntD} {e : EntD} (clock : Int) (hr : RdF w (.slice fa fs.length fc) fs) (hu : UndE fs e) (hf : ∀ f ∈ fs, 0 ≤ f.tl ∧ f.tl ≤ 1099511627776) (hl : RdL3 w a cap l) (he : EntD.Ok w e) (h3 : e.kind ≤ 3) (hn : l.length ≤ 1353245080300) :
    Calls Tryz.prog 63 #[.agg #[.slice fa fs.length fc], .int .i64 clock, .slice a l.length cap, .agg e.cells] w fun r w' => r = .returned (.bool (inB fs clock (l.map EntD.dat) e.dat)) ∧ Below w.heap.size w w' := by
  obtain ⟨W, hW, A, hb⟩ := box_se w fa fs.length fc e
  have HMk := Lib.hid (refMask_any (hl.later A) (he.later A) h3 hn)
  have HEx := Lib.hid (fun (Z : World) (k : Below W.heap.size W Z) => refExpired_any clock (hr.later (A.trans (k.mono A.size))) hu hf)
  obtain ⟨E, hE⟩ : ∃ E, E = expS (mt fs) clock e.dat := ⟨_, rfl⟩
  obtain ⟨M, hM⟩ : ∃ M, M = maskOf (l.map EntD.dat) e.dat := ⟨_, rfl⟩
  obtain ⟨R, hR⟩ : ∃ R, R = inB fs clock (l.map EntD.dat) e.dat := ⟨_, rfl⟩
  have HR : Hid (R = (decide (M < e.ts) && !E)) := by unfold Hid; rw [hR, hM, hE]; rfl
  rw [← hM] at HMk
  rw [← hE] at HEx
  rw [← hR]
  obtain ⟨K, hK⟩ : ∃ K, K = fs.length := ⟨_, rfl⟩
  obtain ⟨N, hN⟩ : ∃ N, N = l.length := ⟨_, rfl⟩
  rw [← hK] at hb HEx hW
  rw [← hN] at HMk
  rw [← hK, ← hN]
  have HW := Lib.hid hW
  have HA := Lib.hid A
  have HB := Lib.hid hb
  obtain ⟨c1, e1⟩ := hb W (Below.refl _ _)
  have x := e1.cells7
  obtain ⟨x0, x1, x2, x3, x4, x5, x6⟩ := x
  unfold EntD.cells at HW HMk HEx ⊢
  clear hW A hb hE hM hR e1 hu hf hr hl he h3 hn hK hN
  go_enter Tryz.func63, Tryz.ntmps63
  go_upto_region 1 with fail
  rw [← HW.out]
  clear HW
  go_wp2_with fail
  refine Calls.mono HMk.out ?_
  rintro r w1 ⟨rfl, b1⟩
  have B1 := Lib.hid b1
  obtain ⟨c1', e1'⟩ := HB.out w1 b1
  clear b1 c1 x0 x1 x2 x3 x4 x5 x6 HMk
  obtain ⟨x0, x1, x2, x3, x4, x5, x6⟩ := e1'.cells7
  clear e1'
  go_wp2_with fail
  refine Calls.mono (HEx.out _ B1.out) ?_
  rintro r w2 ⟨rfl, b2⟩
  have B2 := Lib.hid (B1.out.trans (b2.mono B1.out.size))
  obtain ⟨c2', e2'⟩ := HB.out w2 B2.out
  clear b2 c1' x0 x1 x2 x3 x4 x5 x6 HEx
  obtain ⟨x0, x1, x2, x3, x4, x5, x6⟩ := e2'.cells7
  clear e2'
  by_cases cm : M < e.ts
  · have d0 : decide (M < e.ts) = true := decide_eq_true cm
    have q : Hid (R = !E) := by unfold Hid; rw [HR.out]; simp [cm]
    clear HR
    go_wp2
    go_ret
    exact ⟨by rw [q.out]; rfl, HA.out.trans (B2.out.mono HA.out.size)⟩
  · have d0 : decide (M < e.ts) = false := decide_eq_false cm
    have q : Hid (R = false) := by unfold Hid; rw [HR.out]; simp [cm]
    clear HR
    go_wp2
    go_ret
    exact ⟨by rw [q.out]; rfl, HA.out.trans (B2.out.mono HA.out.size)⟩
end Go.Proofs.YthhkpkfpifllkaaGreat

namespace Go.Proofs.YthhkpkfpifllkaaGreat
open Go.RowKit
set_option linter.unusedVariables false

def Keeps (mk : Nat) (w w' : World) : Prop := ∀ p : Addr, w.cell? p = some (.int .u8 (mk : Int)) → w'.cell? p = some (.int .u8 (mk : Int))
end Go.Proofs.YthhkpkfpifllkaaGreat

namespace Go.Proofs.YthhkpkfpifllkaaGreat
open Go.RowKit
set_option linter.unusedVariables false

def Near (w : World) (l u : Value) : Prop := u.ownBlock = l.ownBlock ∨ ∀ g, u.ownBlock = some g → w.heap.size ≤ g
def Marked (w w' : World) (l : Value) (G mk : Nat) : Prop := w.heap.size ≤ G ∧ ∀ i, i < 4 → ∃ ai ki ci, w'.cell? ⟨G, i, none⟩ = some (.slice ai ki ci) ∧ Rd w' (.slice ai ki ci) (List.replicate ki mk) ∧ Near w l (.slice ai ki ci)

def FullL (w : World) (G mk : Nat) : Prop := ∀ i, i < 4 → ∃ ai ki ci, w.cell? ⟨G, i, none⟩ = some (.slice ai ki ci) ∧ Rd w (.slice ai ki ci) (List.replicate ki mk)
end Go.Proofs.YthhkpkfpifllkaaGreat

namespace Go.Proofs.YthhkpkfpifllkaaGreat
open Go.RowKit
set_option linter.unusedVariables false

open Classical in
noncomputable def startL (r : List Nat) : List Nat := if RowOk r then ordL r else []
open Classical in
noncomputable def behindL (r : List Nat) : List Nat := if RowOk r then ordL r ++ [255] else []
open Classical in
noncomputable def rowE (r : List Nat) : Nat := if RowOk r then 0 else 20
end Go.Proofs.YthhkpkfpifllkaaGreat

namespace Go.Proofs.YthhkpkfpifllkaaGreat
open Go.RowKit
set_option linter.unusedVariables false

set_option maxRecDepth 100000 in
set_option maxHeartbeats 4000000 in
theorem refCheck_any {e : EntD} {w : World} (hok : EntD.Ok w e) :
    Calls Tryz.prog 84 #[.agg e.cells] w fun r w' => r = .returned (.int .i64 ((checkS e : Nat) : Int)) ∧ Below w.heap.size w w' := by
  obtain ⟨vr, fam, vq, ts, seq, kind, vv, row, qual, val⟩ := e
  obtain ⟨h1, h2, h3⟩ := hok
  simp only [EntD.cells] at *
  obtain ⟨ar, nr, cr, rfl⟩ := rd_slice h1
  obtain ⟨aq, nq, cq, rfl⟩ := rd_slice h2
  obtain ⟨av, nv, cv, rfl⟩ := rd_slice h3
  obtain ⟨er, _, _, lr⟩ := rd_lens h1
  obtain ⟨eq, _, _, lq⟩ := rd_lens h2
  obtain ⟨ev, _, _, lv⟩ := rd_lens h3
  have A1 := (Below.refl w.heap.size w).alloc (Nat.le_refl _) (.cells #[.slice ar nr cr, .int .i64 fam, .slice aq nq cq, .int .i64 ts, .int .i64 seq, .int .i64 kind, .slice av nv cv] 84)
  obtain ⟨S, hS⟩ : ∃ S, S = checkS ⟨.slice ar nr cr, fam, .slice aq nq cq, ts, seq, kind, .slice av nv cv, row, qual, val⟩ := ⟨_, rfl⟩
  rw [← hS]
  unfold checkS at hS
  simp only at hS
  rw [← er, ← eq, ← ev] at hS
  have HS : Hid (S = _) := hS
  clear hS er eq ev h1 h2 h3
  go_enter Tryz.func84, Tryz.ntmps84
  go_wp2_with fail
  by_cases c1 : nr = 0 ∨ 256 < nr
  · refine (refOut_out _ _ _ _ (by omega)).mono ?_
    rintro e1 w1 ⟨rfl, rfl⟩
    have HE : Hid (S = 20) := by unfold Hid; rw [HS.out]; repeat (first | rw [if_pos (by omega)] | rw [if_neg (by omega)])
    clear HS
    go_wp2
    go_ret
    exact ⟨by rw [HE.out]; rfl, A1⟩
  refine (refOut_in _ _ _ _ (by omega) (by omega)).mono ?_
  rintro e1 w1 ⟨rfl, rfl⟩
  go_wp2_with fail
  by_cases c2 : fam < 0 ∨ 8 ≤ fam
  · refine (refOut_out _ _ _ _ (by omega)).mono ?_
    rintro e1 w1 ⟨rfl, rfl⟩
    have HE : Hid (S = 21) := by unfold Hid; rw [HS.out]; repeat (first | rw [if_pos (by omega)] | rw [if_neg (by omega)])
    clear HS
    go_wp2
    go_ret
    exact ⟨by rw [HE.out]; rfl, A1⟩
  refine (refOut_in _ _ _ _ (by omega) (by omega)).mono ?_
  rintro e1 w1 ⟨rfl, rfl⟩
  by_cases c3 : 256 < nq
  · have q1 : (256 : Int) < (nq : Int) := by omega
    have HE : Hid (S = 22) := by unfold Hid; rw [HS.out]; repeat (first | rw [if_pos (by omega)] | rw [if_neg (by omega)])
    clear HS
    go_wp2
    go_ret
    exact ⟨by rw [HE.out]; rfl, A1⟩
  have q1 : (nq : Int) ≤ 256 := by omega
  by_cases k5 : kind = 5
  · subst k5
    by_cases q0 : 0 < nq
    · have q2 : (0 : Int) < (nq : Int) := by omega
      have HE : Hid (S = 22) := by unfold Hid; rw [HS.out]; repeat (first | rw [if_pos (by omega)] | rw [if_neg (by omega)])
      clear HS
      go_wp2
      go_ret
      exact ⟨by rw [HE.out]; rfl, A1⟩
    have q2 : (nq : Int) ≤ 0 := by omega
    go_wp2_with fail
    by_cases c4 : ts < 1 ∨ 1099511627776 < ts
    · refine (refOut_out _ _ _ _ (by omega)).mono ?_
      rintro e1 w1 ⟨rfl, rfl⟩
      have HE : Hid (S = 23) := by unfold Hid; rw [HS.out]; repeat (first | rw [if_pos (by omega)] | rw [if_neg (by omega)])
      clear HS
      go_wp2
      go_ret
      exact ⟨by rw [HE.out]; rfl, A1⟩
    refine (refOut_in _ _ _ _ (by omega) (by omega)).mono ?_
    rintro e1 w1 ⟨rfl, rfl⟩
    go_wp2_with fail
    by_cases c5 : seq < 0 ∨ 17592186044431 < seq
    · refine (refOut_out _ _ _ _ (by omega)).mono ?_
      rintro e1 w1 ⟨rfl, rfl⟩
      have HE : Hid (S = 24) := by unfold Hid; rw [HS.out]; repeat (first | rw [if_pos (by omega)] | rw [if_neg (by omega)])
      clear HS
      go_wp2
      go_ret
      exact ⟨by rw [HE.out]; rfl, A1⟩
    refine (refOut_in _ _ _ _ (by omega) (by omega)).mono ?_
    rintro e1 w1 ⟨rfl, rfl⟩
    go_wp2_with fail
    refine (refOut_in _ _ _ _ (by decide) (by decide)).mono ?_
    rintro e1 w1 ⟨rfl, rfl⟩
    by_cases c7 : 4096 < nv
    · have v1 : (4096 : Int) < (nv : Int) := by omega
      have HE : Hid (S = 26) := by unfold Hid; rw [HS.out]; repeat (first | rw [if_pos (by omega)] | rw [if_neg (by omega)])
      clear HS
      go_wp2
      go_ret
      exact ⟨by rw [HE.out]; rfl, A1⟩
    have v1 : (nv : Int) ≤ 4096 := by omega
    by_cases c9 : 0 < nv
    · have v0 : (0 : Int) < (nv : Int) := by omega
      have HE : Hid (S = 26) := by unfold Hid; rw [HS.out]; repeat (first | rw [if_pos (by omega)] | rw [if_neg (by omega)])
      clear HS
      go_wp2
      go_ret
      exact ⟨by rw [HE.out]; rfl, A1⟩
    have v0 : (nv : Int) ≤ 0 := by omega
    have HE : Hid (S = 0) := by unfold Hid; rw [HS.out]; repeat (first | rw [if_pos (by omega)] | rw [if_neg (by omega)])
    clear HS
    go_wp2
    go_ret
    exact ⟨by rw [HE.out]; rfl, A1⟩
  have k51 : (kind == 5) = false := by simp; omega
  go_wp2_with fail
  by_cases c4 : ts < 1 ∨ 1099511627776 < ts
  · refine (refOut_out _ _ _ _ (by omega)).mono ?_
    rintro e1 w1 ⟨rfl, rfl⟩
    have HE : Hid (S = 23) := by unfold Hid; rw [HS.out]; repeat (first | rw [if_pos (by omega)] | rw [if_neg (by omega)])
    clear HS
    go_wp2
    go_ret
    exact ⟨by rw [HE.out]; rfl, A1⟩
  refine (refOut_in _ _ _ _ (by omega) (by omega)).mono ?_
  rintro e1 w1 ⟨rfl, rfl⟩
  go_wp2_with fail
  by_cases c5 : seq < 0 ∨ 17592186044431 < seq
  · refine (refOut_out _ _ _ _ (by omega)).mono ?_
    rintro e1 w1 ⟨rfl, rfl⟩
    have HE : Hid (S = 24) := by unfold Hid; rw [HS.out]; repeat (first | rw [if_pos (by omega)] | rw [if_neg (by omega)])
    clear HS
    go_wp2
    go_ret
    exact ⟨by rw [HE.out]; rfl, A1⟩
  refine (refOut_in _ _ _ _ (by omega) (by omega)).mono ?_
  rintro e1 w1 ⟨rfl, rfl⟩
  go_wp2_with fail
  by_cases c6 : kind < 1 ∨ 5 < kind
  · refine (refOut_out _ _ _ _ (by omega)).mono ?_
    rintro e1 w1 ⟨rfl, rfl⟩
    have HE : Hid (S = 25) := by unfold Hid; rw [HS.out]; repeat (first | rw [if_pos (by omega)] | rw [if_neg (by omega)])
    clear HS
    go_wp2
    go_ret
    exact ⟨by rw [HE.out]; rfl, A1⟩
  refine (refOut_in _ _ _ _ (by omega) (by omega)).mono ?_
  rintro e1 w1 ⟨rfl, rfl⟩
  by_cases c7 : 4096 < nv
  · have v1 : (4096 : Int) < (nv : Int) := by omega
    have HE : Hid (S = 26) := by unfold Hid; rw [HS.out]; repeat (first | rw [if_pos (by omega)] | rw [if_neg (by omega)])
    clear HS
    go_wp2
    go_ret
    exact ⟨by rw [HE.out]; rfl, A1⟩
  have v1 : (nv : Int) ≤ 4096 := by omega
  by_cases c8 : kind = 1
  · subst c8
    have HE : Hid (S = 0) := by unfold Hid; rw [HS.out]; repeat (first | rw [if_pos (by omega)] | rw [if_neg (by omega)])
    clear HS
    go_wp2
    go_ret
    exact ⟨by rw [HE.out]; rfl, A1⟩
  have k1 : (kind != 1) = true := by simp; omega
  have k2 : (kind == 1) = false := by simp; omega
  by_cases c9 : 0 < nv
  · have v0 : (0 : Int) < (nv : Int) := by omega
    have HE : Hid (S = 26) := by unfold Hid; rw [HS.out]; repeat (first | rw [if_pos (by omega)] | rw [if_neg (by omega)])
    clear HS
    go_wp2
    go_ret
    exact ⟨by rw [HE.out]; rfl, A1⟩
  have v0 : (nv : Int) ≤ 0 := by omega
  have HE : Hid (S = 0) := by unfold Hid; rw [HS.out]; repeat (first | rw [if_pos (by omega)] | rw [if_neg (by omega)])
  clear HS
  go_wp2
  go_ret
  exact ⟨by rw [HE.out]; rfl, A1⟩

end Go.Proofs.YthhkpkfpifllkaaGreat

namespace Go.Proofs.YthhkpkfpifllkaaGreat
open Go.RowKit
set_option linter.unusedVariables false

end Go.Proofs.YthhkpkfpifllkaaGreat

namespace Go.Proofs.YthhkpkfpifllkaaGreat
open Go.RowKit
set_option linter.unusedVariables false

def LaidE (w : World) (B : Nat) (D : EntD) : Prop := Laid w B D.vr D.row ∧ Laid w B D.vq D.qual ∧ Laid w B D.vv D.val
def EntD.cut (e : EntD) : EntD := { e with row := e.row.take 5000, qual := e.qual.take 5000, val := e.val.take 5000 }
def EntD.Fine (e : EntD) : Prop := (Bys e.row ∧ e.row.length ≤ 5000) ∧ (Bys e.qual ∧ e.qual.length ≤ 5000) ∧ (Bys e.val ∧ e.val.length ≤ 5000)
open Classical in
noncomputable def keyA (e : EntD) : List Nat := if checkS e = 0 then keyL e else []
open Classical in
noncomputable def packA (e : EntD) : List Nat := if checkS e = 0 then packL e else []
end Go.Proofs.YthhkpkfpifllkaaGreat

namespace Go.Proofs.YthhkpkfpifllkaaGreat
open Go.RowKit
set_option linter.unusedVariables false

set_option maxRecDepth 100000 in
theorem refFirst_any (a b : Bool) (w : World) : Calls Tryz.prog 115 #[.bool a, .bool b] w fun e w' => e = .returned (.int .i64 (cmpI (if a then 0 else 1) (if b then 0 else 1))) ∧ w' = w := by
  cases a <;> cases b <;>
  · go_enter Tryz.func115, Tryz.ntmps115
    go_wp2
    go_ret
    exact ⟨rfl, rfl⟩

theorem refFirst_ahead {a b : EntD} (k : Int) {p q : Bool} (hp : p = true ↔ a.kind = k) (hq : q = true ↔ b.kind = k) (w : World) : Calls Tryz.prog 115 #[.bool p, .bool q] w fun e w' => e = .returned (.int .i64 (aheadS a b k)) ∧ w' = w := by
  have h := refFirst_any p q w
  have e : cmpI (if p = true then 0 else 1) (if q = true then 0 else 1) = aheadS a b k := by
    unfold aheadS mark
    by_cases h1 : a.kind = k <;> by_cases h2 : b.kind = k <;> simp [h1, h2, hp, hq]
  rw [e] at h
  exact h

end Go.Proofs.YthhkpkfpifllkaaGreat

namespace Go.Proofs.YthhkpkfpifllkaaGreat
open Go.RowKit
set_option linter.unusedVariables false

set_option maxRecDepth 100000 in
set_option maxHeartbeats 8000000 in
theorem refCompare_any {a b : EntD} {w : World} (ha : EntD.Ok w a) (hb : EntD.Ok w b) :
    Calls Tryz.prog 85 #[.agg a.cells, .agg b.cells] w fun r w' => r = .returned (.int .i64 (compareS a b)) ∧ Below w.heap.size w w' := by
  have A1 := (Below.refl w.heap.size w).alloc (Nat.le_refl _) (.cells a.cells 84)
  have A2 := A1.alloc A1.size (.cells b.cells 84)
  have bxa0 := (EBox.new w a).later ((Below.refl (w.alloc (.cells a.cells 84)).heap.size (w.alloc (.cells a.cells 84))).alloc (Nat.le_refl _) (.cells b.cells 84))
  have bxb0 := EBox.new (w.alloc (.cells a.cells 84)) b
  rw [World.size_alloc] at bxb0
  have HX : Hid (EBox ((w.alloc (.cells a.cells 84)).alloc (.cells b.cells 84)) w.heap.size a ∧ EBox ((w.alloc (.cells a.cells 84)).alloc (.cells b.cells 84)) (w.heap.size + 1) b ∧ Below w.heap.size w ((w.alloc (.cells a.cells 84)).alloc (.cells b.cells 84))) := ⟨bxa0, bxb0, A2⟩
  have HA : Hid (EntD.Ok w a) := ha
  have HB : Hid (EntD.Ok w b) := hb
  have HCS : Hid (compareS a b = firstNZ (cmpsS a b)) := rfl
  clear A1 A2 bxa0 bxb0 ha hb
  simp only [EntD.cells] at HX ⊢
  obtain ⟨W, hW⟩ : ∃ W, W = ((w.alloc (.cells #[a.vr, .int .i64 a.fam, a.vq, .int .i64 a.ts, .int .i64 a.seq, .int .i64 a.kind, a.vv] 84)).alloc (.cells #[b.vr, .int .i64 b.fam, b.vq, .int .i64 b.ts, .int .i64 b.seq, .int .i64 b.kind, b.vv] 84)) := ⟨_, rfl⟩
  rw [← hW] at HX
  have KS : Hid (∀ wx, Below W.heap.size W wx → (wx.cell? ⟨w.heap.size, 0, none⟩ = some a.vr ∧ wx.cell? ⟨w.heap.size, 1, none⟩ = some (.int .i64 a.fam) ∧ wx.cell? ⟨w.heap.size, 2, none⟩ = some a.vq ∧ wx.cell? ⟨w.heap.size, 3, none⟩ = some (.int .i64 a.ts) ∧ wx.cell? ⟨w.heap.size, 4, none⟩ = some (.int .i64 a.seq) ∧ wx.cell? ⟨w.heap.size, 5, none⟩ = some (.int .i64 a.kind)) ∧ (wx.cell? ⟨w.heap.size + 1, 0, none⟩ = some b.vr ∧ wx.cell? ⟨w.heap.size + 1, 1, none⟩ = some (.int .i64 b.fam) ∧ wx.cell? ⟨w.heap.size + 1, 2, none⟩ = some b.vq ∧ wx.cell? ⟨w.heap.size + 1, 3, none⟩ = some (.int .i64 b.ts) ∧ wx.cell? ⟨w.heap.size + 1, 4, none⟩ = some (.int .i64 b.seq) ∧ wx.cell? ⟨w.heap.size + 1, 5, none⟩ = some (.int .i64 b.kind))) := fun wx h => by
    have e1 := HX.out.1.later h
    have e2 := HX.out.2.1.later h
    exact ⟨⟨e1.vr, e1.fam, e1.vq, e1.ts, e1.seq, e1.kind⟩, ⟨e2.vr, e2.fam, e2.vq, e2.ts, e2.seq, e2.kind⟩⟩
  have D0 : Below W.heap.size W W.drew := (Below.refl _ _).drew
  have RA : Hid (∀ wx, Below W.heap.size W wx → EntD.Ok wx a ∧ EntD.Ok wx b) := fun wx h => ⟨(HA.out.later HX.out.2.2).later h, (HB.out.later HX.out.2.2).later h⟩
  go_enter Tryz.func85, Tryz.ntmps85
  go_wp2_with fail
  rw [← hW]
  clear hW
  go_region_held3 (fun wx => (wx.cell? ⟨w.heap.size, 0, none⟩ = some a.vr ∧ wx.cell? ⟨w.heap.size, 1, none⟩ = some (.int .i64 a.fam) ∧ wx.cell? ⟨w.heap.size, 2, none⟩ = some a.vq ∧ wx.cell? ⟨w.heap.size, 3, none⟩ = some (.int .i64 a.ts) ∧ wx.cell? ⟨w.heap.size, 4, none⟩ = some (.int .i64 a.seq) ∧ wx.cell? ⟨w.heap.size, 5, none⟩ = some (.int .i64 a.kind)) ∧ (wx.cell? ⟨w.heap.size + 1, 0, none⟩ = some b.vr ∧ wx.cell? ⟨w.heap.size + 1, 1, none⟩ = some (.int .i64 b.fam) ∧ wx.cell? ⟨w.heap.size + 1, 2, none⟩ = some b.vq ∧ wx.cell? ⟨w.heap.size + 1, 3, none⟩ = some (.int .i64 b.ts) ∧ wx.cell? ⟨w.heap.size + 1, 4, none⟩ = some (.int .i64 b.seq) ∧ wx.cell? ⟨w.heap.size + 1, 5, none⟩ = some (.int .i64 b.kind)))
    (first | exact KS.out _ D0 | exact KS.out _ DD1 | exact KS.out _ DD2 | exact KS.out _ (DD2.alloc DD2.size _))
    (first
      | (go_at_call 114; refine (refNumber_any _ _ _).mono ?_; rintro e wn ⟨rfl, rfl⟩)
      | (go_at_call 115; have _t := T5.out; refine (refFirst_ahead (a := a) (b := b) 4 (by simp) (by simp) _).mono ?_; rintro e wn ⟨rfl, rfl⟩)
      | (go_at_call 115; refine (refFirst_ahead (a := a) (b := b) 5 (by simp) (by simp) _).mono ?_; rintro e wn ⟨rfl, rfl⟩; have T5 : Hid True := trivial)
      | (go_at_call 113; refine (refBytesOrd_any (RA.out _ DD1).1.2.1 (RA.out _ DD1).2.2.1).mono ?_; rintro e4 w4 ⟨rfl, hb4⟩; have DD2 := DD1.trans (hb4.mono DD1.size))
      | (go_at_call 113; refine (refBytesOrd_any (RA.out _ D0).1.1 (RA.out _ D0).2.1).mono ?_; rintro e3 w3 ⟨rfl, hb3⟩; have DD1 := D0.trans (hb3.mono D0.size)))
  have DW := HX.out.2.2.trans (DD2.mono HX.out.2.2.size)
  have DA := DW.alloc DW.size (.cells #[.int .i64 (ordC a.row b.row), .int .i64 (cmpI a.fam b.fam), .int .i64 (aheadS a b 5), .int .i64 (ordC a.qual b.qual), .int .i64 (aheadS a b 4), .int .i64 (cmpI b.ts a.ts), .int .i64 (cmpI b.seq a.seq), .int .i64 (cmpI a.kind b.kind)] 3)
  obtain ⟨U, hU⟩ : ∃ U, U = wn.alloc (.cells #[.int .i64 (ordC a.row b.row), .int .i64 (cmpI a.fam b.fam), .int .i64 (aheadS a b 5), .int .i64 (ordC a.qual b.qual), .int .i64 (aheadS a b 4), .int .i64 (cmpI b.ts a.ts), .int .i64 (cmpI b.seq a.seq), .int .i64 (cmpI a.kind b.kind)] 3) := ⟨_, rfl⟩
  have HCL : Hid (∀ t, t < 8 → U.cell? ⟨wn.heap.size, t, none⟩ = some (.int .i64 ((cmpsS a b).getD t 0))) := fun t ht => by
    have hh : U.heap[wn.heap.size]? = some (.cells #[.int .i64 (ordC a.row b.row), .int .i64 (cmpI a.fam b.fam), .int .i64 (aheadS a b 5), .int .i64 (ordC a.qual b.qual), .int .i64 (aheadS a b 4), .int .i64 (cmpI b.ts a.ts), .int .i64 (cmpI b.seq a.seq), .int .i64 (cmpI a.kind b.kind)] 3) := by rw [hU]; exact heap_new wn _
    have hc : ∀ j, U.cell? ⟨wn.heap.size, j, none⟩ = (#[.int .i64 (ordC a.row b.row), .int .i64 (cmpI a.fam b.fam), .int .i64 (aheadS a b 5), .int .i64 (ordC a.qual b.qual), .int .i64 (aheadS a b 4), .int .i64 (cmpI b.ts a.ts), .int .i64 (cmpI b.seq a.seq), .int .i64 (cmpI a.kind b.kind)] : Array Value)[j]? := fun j => by simp [World.cell?, hh]
    rw [hc]
    match t, ht with
    | 0, _ => rfl
    | 1, _ => rfl
    | 2, _ => rfl
    | 3, _ => rfl
    | 4, _ => rfl
    | 5, _ => rfl
    | 6, _ => rfl
    | 7, _ => rfl
  rw [← hU] at DA ⊢
  have HDA := Lib.hid DA
  have HLL : Hid ((cmpsS a b).length = 8) := rfl
  obtain ⟨l, hl⟩ : ∃ l, l = cmpsS a b := ⟨_, rfl⟩
  rw [← hl] at HCL HLL HCS
  obtain ⟨G, hG⟩ : ∃ G, G = wn.heap.size := ⟨_, rfl⟩
  rw [← hG] at HCL ⊢
  clear DA DW hU DD1 DD2 KS RA D0 HX HA HB hl hG
  rename_i hXX
  clear hXX
  go_wp2
  go_loopw [6] (fun i wr => ∃ t : Nat, t ≤ 8 ∧ i = .int .i64 (t : Int) ∧ Hid (∀ j, j < t → l.getD j 0 = 0) ∧ wr = U) (fun i _ => 8 - (intOf i).toNat)
  case atStart => exact ⟨0, by omega, rfl, fun j hj => by omega, rfl⟩
  case round =>
    obtain ⟨t, ht, rfl, hz, rfl⟩ := hrel
    by_cases hlt : t < 8
    · have hlt2 : (t : Int) < 8 := by omega
      have ht0 : (0 : Int) ≤ (t : Int) := by omega
      have ct := HCL.out t hlt
      obtain ⟨v, hv⟩ : ∃ v, v = l.getD t 0 := ⟨_, rfl⟩
      rw [← hv] at ct
      have HV := Lib.hid hv
      clear hv
      by_cases h0 : v = 0
      · subst h0
        go_wp2
        go_roundw
        case rel => exact ⟨t + 1, by omega, by go_num, fun j hj => by
          by_cases hjt : j = t
          · subst hjt; exact HV.out.symm
          · exact hz.out j (by omega), trivial⟩
        case measure => simp [intOf]; omega
      · have h1 : (v != 0) = true := by simpa using h0
        have h2 : (v == 0) = false := by simpa using h0
        have HR : Hid (compareS a b = v) := by unfold Hid; rw [HCS.out, firstNZ_at l t hz.out (by rw [← HV.out]; exact h0)]; exact HV.out.symm
        go_wp2
        go_ret
        rw [HR.out]
        exact ⟨rfl, HDA.out⟩
    · have hge : (8 : Int) ≤ (t : Int) := by omega
      obtain rfl : t = 8 := by omega
      have HR : Hid (compareS a b = 0) := by unfold Hid; rw [HCS.out]; exact firstNZ_none l (fun j hj => hz.out j (by rw [HLL.out] at hj; exact hj))
      go_wp2
      go_ret
      rw [HR.out]
      exact ⟨rfl, HDA.out⟩

end Go.Proofs.YthhkpkfpifllkaaGreat

namespace Go.Proofs.YthhkpkfpifllkaaGreat
open Go.RowKit Go.Maps
set_option linter.unusedVariables false

def pushR (k : Nat) (last : EntD) (has : Bool) (e : EntD) : Int := if check3S k e ≠ 0 then check3S k e else if has = false then 0 else if 0 < compareS last e then 30 else if ¬ EntD.Same last e ∧ (compareS last e = 0 ∨ last.seq = e.seq) then 31 else 0
theorem seq_of_zero {a b : EntD} (h : compareS a b = 0) : a.seq = b.seq := by
  have q : sameS a { b with val := a.val } = true := by
    unfold sameS
    show (decide (compareS a b = 0) && decide (a.val = a.val)) = true
    simp [h]
  exact congrArg En.seq (sameS_dat q)
theorem sameS_iff {a b : EntD} : sameS a b = true ↔ EntD.Same b a := ⟨fun h => EntD.dat_same.1 (sameS_dat h).symm, fun h => sameS_of (EntD.dat_same.2 h).symm⟩
theorem pushR_is (k : Nat) (s : SpD) (e : EntD) : pushR k s.last s.begun e = pushE k s e := by
  unfold pushR pushE
  by_cases h : check3S k e ≠ 0
  · rw [if_pos h, if_pos h]
  · rw [if_neg h, if_neg h]
    cases hb : s.begun with
    | false => simp
    | true =>
      rw [if_neg (by decide), if_pos rfl]
      have sw := compareS_swap s.last e
      by_cases hp : 0 < compareS s.last e
      · have q : compareS e s.last < 0 := by omega
        rw [if_pos hp, if_pos q]
      · have q : ¬ compareS e s.last < 0 := by omega
        rw [if_neg hp, if_neg q]
        by_cases hs : sameS e s.last = true
        · have q2 : ¬ (¬ EntD.Same s.last e ∧ (compareS s.last e = 0 ∨ s.last.seq = e.seq)) := fun z => z.1 (sameS_iff.1 hs)
          rw [if_pos hs, if_neg q2]
        · rw [if_neg hs]
          by_cases hq : e.seq = s.last.seq
          · have q2 : ¬ EntD.Same s.last e ∧ (compareS s.last e = 0 ∨ s.last.seq = e.seq) := ⟨fun z => hs (sameS_iff.2 z), .inr hq.symm⟩
            rw [if_pos hq, if_pos q2]
          · have q2 : ¬ (¬ EntD.Same s.last e ∧ (compareS s.last e = 0 ∨ s.last.seq = e.seq)) := fun z => z.2.elim (fun z => hq (seq_of_zero z).symm) (fun z => hq z.symm)
            rw [if_neg hq, if_neg q2]
theorem box_push (w : World) (fa : Option Addr) (K fc : Nat) (a b : EntD) : ∃ W, W = ((w.alloc (.cells #[.slice fa K fc] 27)).alloc (.cells a.cells 84)).alloc (.cells b.cells 84) ∧ Below w.heap.size w W ∧ (∀ Z, Below W.heap.size W Z → Z.cell? ⟨w.heap.size, 0, none⟩ = some (.slice fa K fc) ∧ EBox Z (w.heap.size + 1) a ∧ EBox Z (w.heap.size + 1 + 1) b) := by
  obtain ⟨X0, hX0, A1, hc⟩ := sch_box w fa K fc
  obtain ⟨W, hW, A2, hb⟩ := box2 X0 a b
  have sz : X0.heap.size = w.heap.size + 1 := by rw [hX0]; simp
  refine ⟨W, by rw [hW, hX0], A1.trans (A2.mono A1.size), fun Z k => ⟨hc Z (A2.trans (k.mono A2.size)), ?_⟩⟩
  have := hb Z k
  rw [sz] at this
  exact this
set_option maxRecDepth 100000 in
set_option maxHeartbeats 4000000 in
theorem refPushable_any {w : World} {fa : Option Addr} {K fc : Nat} {a e : EntD} (has : Bool) (ha : EntD.Ok w a) (he : EntD.Ok w e) :
    Calls Tryz.prog 102 #[.agg #[.slice fa K fc], .agg a.cells, .bool has, .agg e.cells] w fun r w' => r = .returned (.int .i64 (pushR K a has e)) ∧ Below w.heap.size w w' := by
  obtain ⟨W, hW, A, hb⟩ := box_push w fa K fc a e
  obtain ⟨qs, hqs⟩ : ∃ q, q = w.heap.size := ⟨_, rfl⟩
  rw [← hqs] at hb
  have HCs : Hid (∀ Z, Below W.heap.size W Z → (Z.cell? ⟨qs + 1 + 1, 0, none⟩ = some e.vr ∧ Z.cell? ⟨qs + 1 + 1, 1, none⟩ = some (.int .i64 e.fam) ∧ Z.cell? ⟨qs + 1 + 1, 2, none⟩ = some e.vq ∧ Z.cell? ⟨qs + 1 + 1, 3, none⟩ = some (.int .i64 e.ts) ∧ Z.cell? ⟨qs + 1 + 1, 4, none⟩ = some (.int .i64 e.seq) ∧ Z.cell? ⟨qs + 1 + 1, 5, none⟩ = some (.int .i64 e.kind) ∧ Z.cell? ⟨qs + 1 + 1, 6, none⟩ = some e.vv) ∧ (Z.cell? ⟨qs + 1, 0, none⟩ = some a.vr ∧ Z.cell? ⟨qs + 1, 1, none⟩ = some (.int .i64 a.fam) ∧ Z.cell? ⟨qs + 1, 2, none⟩ = some a.vq ∧ Z.cell? ⟨qs + 1, 3, none⟩ = some (.int .i64 a.ts) ∧ Z.cell? ⟨qs + 1, 4, none⟩ = some (.int .i64 a.seq) ∧ Z.cell? ⟨qs + 1, 5, none⟩ = some (.int .i64 a.kind) ∧ Z.cell? ⟨qs + 1, 6, none⟩ = some a.vv) ∧ Z.cell? ⟨qs, 0, none⟩ = some (.slice fa K fc)) := fun Z b => ⟨EBox.cells7 (hb Z b).2.2, EBox.cells7 (hb Z b).2.1, (hb Z b).1⟩
  have HC1 := Lib.hid (refCheck_any (he.later A))
  have HC2 : Hid (∀ Z, Below W.heap.size W Z → Calls Tryz.prog 85 #[.agg a.cells, .agg e.cells] Z fun r w' => r = .returned (.int .i64 (compareS a e)) ∧ Below W.heap.size W w') := fun Z b => (refCompare_any ((ha.later A).later b) ((he.later A).later b)).mono fun r w' k => ⟨k.1, b.trans (k.2.mono b.size)⟩
  have HC3 : Hid (∀ Z, Below W.heap.size W Z → Calls Tryz.prog 45 #[.agg a.cells, .agg e.cells] Z fun r w' => r = .returned (.bool (decide (EntD.Same a e))) ∧ Below W.heap.size W w') := fun Z b => (same3r_any ((ha.later A).later b) ((he.later A).later b)).mono fun r w' k => ⟨k.1, b.trans (k.2.mono b.size)⟩
  obtain ⟨c, hc⟩ : ∃ c, c = checkS e := ⟨_, rfl⟩
  obtain ⟨P, hP⟩ : ∃ P, P = compareS a e := ⟨_, rfl⟩
  obtain ⟨M, hM⟩ : ∃ M, M = decide (EntD.Same a e) := ⟨_, rfl⟩
  obtain ⟨R, hR⟩ : ∃ R, R = pushR K a has e := ⟨_, rfl⟩
  have HR : Hid (R = if c ≠ 0 then (c : Int) else if (K : Int) ≤ e.fam then 21 else if has = false then 0 else if 0 < P then 30 else if M = false ∧ (P = 0 ∨ a.seq = e.seq) then 31 else 0) := by
    unfold Hid
    rw [hR, hc, hP, hM]
    unfold pushR check3S
    by_cases h : checkS e ≠ 0
    · have h2 : ((checkS e : Nat) : Int) ≠ 0 := by omega
      rw [if_pos h, if_pos h, if_pos h2]
    · rw [if_neg h, if_neg h]
      by_cases z : (K : Int) ≤ e.fam
      · rw [if_pos z, if_pos z, if_pos (by decide)]
      · rw [if_neg z, if_neg z, if_neg (by decide)]
        simp
  rw [← hc] at HC1
  rw [← hP] at HC2
  rw [← hM] at HC3
  rw [← hR]
  have HA := Lib.hid A
  have HW := Lib.hid hW
  have hq1 := hqs.symm
  have zs := (HCs.out W (Below.refl _ _)).1
  rw [hW] at zs
  unfold EntD.cells at HW HC1 HC2 HC3 zs ⊢
  obtain ⟨x0, x1, x2, x3, x4, x5, x6⟩ := zs
  rw [hqs] at x0 x1 x2 x3 x4 x5 x6
  clear ha he hb hW A hc hP hM hR hqs
  go_enter Tryz.func102, Tryz.ntmps102
  go_wp2_with fail
  rw [← HW.out]
  (try rw [hq1])
  refine Calls.mono HC1.out ?_
  rintro z W1 ⟨rfl, b1⟩
  have HB1 := Lib.hid b1
  clear x0 x1 x2 x3 x4 x5 x6 HC1 HW hq1 b1
  by_cases h0 : c = 0
  · subst h0
    obtain ⟨⟨x0, x1, x2, x3, x4, x5, x6⟩, ⟨y0, y1, y2, y3, y4, y5, y6⟩, z0⟩ := HCs.out W1 HB1.out
    have HR2 : Hid (R = if (K : Int) ≤ e.fam then 21 else if has = false then 0 else if 0 < P then 30 else if M = false ∧ (P = 0 ∨ a.seq = e.seq) then 31 else 0) := by unfold Hid; rw [HR.out, if_neg (by simp)]
    clear HR
    by_cases h1 : (K : Int) ≤ e.fam
    · have q : Hid (R = 21) := by unfold Hid; rw [HR2.out, if_pos h1]
      clear HR2
      go_wp2
      go_ret
      exact ⟨by rw [q.out]; rfl, HA.out.trans (HB1.out.mono HA.out.size)⟩
    · have h1d : decide ((K : Int) ≤ e.fam) = false := decide_eq_false h1
      have HR3 : Hid (R = if has = false then 0 else if 0 < P then 30 else if M = false ∧ (P = 0 ∨ a.seq = e.seq) then 31 else 0) := by unfold Hid; rw [HR2.out, if_neg h1]
      clear HR2
      cases has with
      | false =>
        have q : Hid (R = 0) := by unfold Hid; rw [HR3.out, if_pos rfl]
        clear HR3
        go_wp2
        go_ret
        exact ⟨by rw [q.out]; rfl, HA.out.trans (HB1.out.mono HA.out.size)⟩
      | true =>
        have HR4 : Hid (R = if 0 < P then 30 else if M = false ∧ (P = 0 ∨ a.seq = e.seq) then 31 else 0) := by unfold Hid; rw [HR3.out, if_neg (by decide)]
        have HC6 := Lib.hid (HC2.out W1 HB1.out)
        clear HR3
        go_wp2_with fail
        refine Calls.mono HC6.out ?_
        rintro z2 W2 ⟨rfl, b2⟩
        have HB2 := Lib.hid b2
        have HC7 := Lib.hid (HC3.out W2 b2)
        clear x0 x1 x2 x3 x4 x5 x6 y0 y1 y2 y3 y4 y5 y6 z0 HC6 b2
        obtain ⟨⟨x0, x1, x2, x3, x4, x5, x6⟩, ⟨y0, y1, y2, y3, y4, y5, y6⟩, z0⟩ := HCs.out W2 HB2.out
        go_wp2_with fail
        refine Calls.mono HC7.out ?_
        rintro z3 W3 ⟨rfl, b3⟩
        have HB3 := Lib.hid (HA.out.trans (b3.mono HA.out.size))
        clear x0 x1 x2 x3 x4 x5 x6 y0 y1 y2 y3 y4 y5 y6 z0 HC7
        obtain ⟨⟨x0, x1, x2, x3, x4, x5, x6⟩, ⟨y0, y1, y2, y3, y4, y5, y6⟩, z0⟩ := HCs.out W3 b3
        clear b3
        by_cases hp : 0 < P
        · have q : Hid (R = 30) := by unfold Hid; rw [HR4.out, if_pos hp]
          have hpd : decide (0 < P) = true := decide_eq_true hp
          clear HR4
          go_wp2
          go_ret
          exact ⟨by rw [q.out]; rfl, HB3.out⟩
        · have hpd : decide (0 < P) = false := decide_eq_false hp
          have HR5 : Hid (R = if M = false ∧ (P = 0 ∨ a.seq = e.seq) then 31 else 0) := by unfold Hid; rw [HR4.out, if_neg hp]
          clear HR4
          cases M with
          | true =>
            have q : Hid (R = 0) := by unfold Hid; rw [HR5.out, if_neg (by simp)]
            clear HR5
            go_wp2
            go_ret
            exact ⟨by rw [q.out]; rfl, HB3.out⟩
          | false =>
            by_cases hz : P = 0
            · have q : Hid (R = 31) := by unfold Hid; rw [HR5.out, if_pos ⟨rfl, .inl hz⟩]
              have hzb : (P == 0) = true := by simp [hz]
              clear HR5 hz
              go_wp2
              go_ret
              exact ⟨by rw [q.out]; rfl, HB3.out⟩
            · have hzb : (P == 0) = false := by simp [hz]
              by_cases hq : a.seq = e.seq
              · have q : Hid (R = 31) := by unfold Hid; rw [HR5.out, if_pos ⟨rfl, .inr hq⟩]
                have hqb : (a.seq == e.seq) = true := by simp [hq]
                clear HR5 hz hq
                go_wp2
                go_ret
                exact ⟨by rw [q.out]; rfl, HB3.out⟩
              · have q : Hid (R = 0) := by unfold Hid; rw [HR5.out, if_neg (fun z => z.2.elim hz hq)]
                have hqb : (a.seq == e.seq) = false := by simp [hq]
                clear HR5 hz hq
                go_wp2
                go_ret
                exact ⟨by rw [q.out]; rfl, HB3.out⟩
  · have q : Hid (R = (c : Int)) := by unfold Hid; rw [HR.out, if_pos h0]
    have b0 : ((c : Int) != 0) = true := by simp; omega
    clear HR h0
    go_wp2
    go_ret
    exact ⟨by rw [q.out]; rfl, HA.out.trans (HB1.out.mono HA.out.size)⟩
end Go.Proofs.YthhkpkfpifllkaaGreat

namespace Go.Proofs.YthhkpkfpifllkaaGreat
open Go.RowKit
set_option linter.unusedVariables false

section
variable {fs : List (Int × Int)} {clock : Int} {k : Nat} {l m : List EntD} {s : Sp} {us : List Vd}
theorem step_last (s : Sp) (e : En) : (stepS fs clock s e).2.last = e := by
  unfold stepS
  repeat' split
  all_goals rfl
theorem Pushed.last (h : Pushed fs clock k l m s us) : (l = [] ∧ m = [] ∧ us = [] ∧ s = Sp.zero) ∨ (s.begun = true ∧ ∃ y z, m.getLast? = some y ∧ l.getLast? = some z ∧ y.dat = s.last ∧ z.dat = s.last) := by
  induction h with
  | nil => exact .inl ⟨rfl, rfl, rfl, rfl⟩
  | @twin l m s vs e y h hy he ih =>
    rcases ih with ⟨_, rfl, _⟩ | ⟨b, y', z', e1, e2, e3, e4⟩
    · cases hy
    · have ey : y = y' := Option.some.inj (hy.symm.trans e1)
      exact .inr ⟨b, y, e, hy, by simp, by rw [ey]; exact e3, by rw [← he, ey]; exact e3⟩
  | @step l m s vs e h ho hc ih => exact .inr ⟨step_begun s e.dat, e, e, by simp, by simp, (step_last s e.dat).symm, (step_last s e.dat).symm⟩
theorem last_le {m : List EntD} {y z : EntD} (hp : m.Pairwise fun x y => compareS x y ≤ 0) (hl : m.getLast? = some z) (hy : y ∈ m) : compareS y z ≤ 0 := by
  obtain ⟨ys, rfl⟩ : ∃ ys, m = ys ++ [z] := ⟨m.dropLast, by
    have hne : m ≠ [] := fun q => by rw [q] at hl; cases hl
    have := List.dropLast_concat_getLast hne
    rw [List.getLast?_eq_some_getLast hne] at hl
    cases hl
    exact this.symm⟩
  rcases List.mem_append.1 hy with q | q
  · exact (List.pairwise_append.1 hp).2.2 y q z List.mem_cons_self
  · rw [List.mem_singleton.1 q, compareS_self]; exact Int.le_refl _
theorem Pushed.push {s : SpD} {e : EntD} (h : Pushed fs clock k l m s.dat us) (hc : ∀ (i : Nat) y, i + 1 < l.length → l[i]? = some y → y.seq = e.seq → y.dat = e.dat) (hE : pushE k s e = 0) : ∃ m', Pushed fs clock k (l ++ [e]) m' (pushS k fs clock s e).2 (us ++ (pushS k fs clock s e).1) := by
  unfold pushS
  rw [if_neg (by rw [hE]; decide)]
  by_cases hb : s.begun = true ∧ sameS e s.last = true
  · rw [if_pos hb]
    rcases h.last with ⟨_, _, _, q⟩ | ⟨_, y, z, e1, e2, e3, e4⟩
    · have : s.dat.begun = false := by rw [q]; rfl
      have h1 : s.begun = false := this
      rw [h1] at hb
      exact absurd hb.1 (by decide)
    · exact ⟨m, .twin h e1 (e3.trans (sameS_dat hb.2).symm)⟩
  · rw [if_neg hb]
    have hck : check3S k e = 0 := by
      unfold pushE at hE
      by_cases q : check3S k e ≠ 0
      · rw [if_pos q] at hE; exact hE
      · exact Decidable.not_not.1 q
    refine ⟨m ++ [e], .step h ?_ hck⟩
    rcases h.last with ⟨_, q, _, _⟩ | ⟨b, y, z, e1, e2, e3, e4⟩
    · rw [q]; intro y hy; cases hy
    · have b' : s.begun = true := b
      unfold pushE at hE
      rw [if_neg (by rw [hck]; decide), if_pos b'] at hE
      have c1 : ¬ compareS e s.last < 0 := fun q => by rw [if_pos q] at hE; exact absurd hE (by decide)
      have c2 : ¬ sameS e s.last = true := fun q => hb ⟨b', q⟩
      rw [if_neg c1, if_neg c2] at hE
      have c3 : ¬ e.seq = s.last.seq := fun q => by rw [if_pos q] at hE; exact absurd hE (by decide)
      have sw := compareS_swap e s.last
      have sy : EntD.Same y s.last := EntD.dat_same.1 e3
      have cy : compareS y e ≤ 0 := by
        rw [compareS_same sy ⟨rfl, rfl, rfl, rfl, rfl, rfl, rfl⟩]
        omega
      obtain ⟨o1, o2, o3, o4⟩ := h.ord
      intro x hx
      have t1 := last_le o1 e1 hx
      have tr := compareS_tri x y e
      refine ⟨tr.1 ⟨t1, cy⟩, fun hq => ?_⟩
      obtain ⟨i, hi, hxi⟩ := List.getElem_of_mem (o3 x hx).2
      have hxi' : l[i]? = some x := by rw [← hxi]; exact List.getElem?_eq_getElem hi
      by_cases hlast : i + 1 < l.length
      · have hd := hc i x hlast hxi' hq
        have z0 : compareS x e = 0 := by
          rw [compareS_same (EntD.dat_same.1 hd) ⟨rfl, rfl, rfl, rfl, rfl, rfl, rfl⟩, compareS_self]
        have := (tr.2.2.1 ⟨t1, cy, z0⟩).2
        have sq := seq_of_zero this
        have : y.seq = s.last.seq := congrArg En.seq e3
        exact c3 (sq.symm.trans this)
      · have hi' : i = l.length - 1 := by omega
        rw [List.getLast?_eq_getElem?, ← hi', hxi'] at e2
        cases e2
        exact c3 (hq.symm.trans (congrArg En.seq e4))
theorem Pushed.few (h : Pushed fs clock k l m s us) : us.length ≤ l.length ∧ (us ++ (resolveS fs clock s 3).1).length = l.length ∧ s.rank ≤ us.length ∧ (s.waiting = true → s.begun = true) := by
  obtain ⟨h1, h2, h3⟩ := h.state
  obtain ⟨w1, w2, w3⟩ := walk_len (fs := fs) (clock := clock) (m.map EntD.dat)
  rw [← h1] at w1 w2 w3
  rw [List.length_map] at w1
  have r := resolve_len (fs := fs) (clock := clock) s 3
  have hml : m.length ≤ l.length := by
    clear h1 h2 h3 w1 w2 w3 r
    induction h with
    | nil => exact Nat.le_refl _
    | twin h hy he ih => simp only [List.length_append, List.length_cons, List.length_nil]; omega
    | step h ho hc ih => simp only [List.length_append, List.length_cons, List.length_nil]; omega
  refine ⟨by omega, by rw [List.length_append, r]; omega, ?_, w3⟩
  have := w2.2
  omega
def Sz (e : En) : Prop := ByE e ∧ e.row.length ≤ 256 ∧ e.qual.length ≤ 256 ∧ e.val.length ≤ 4096
theorem resolve_sz {s : Sp} {kd : Int} (h : s.waiting = true → Sz s.last) : (∀ v ∈ (resolveS fs clock s kd).1, Sz v.e) ∧ (resolveS fs clock s kd).2.last = s.last ∧ (resolveS fs clock s kd).2.waiting = false := by
  refine ⟨fun v hv => ?_, ?_, resolve_wl s kd⟩
  · unfold resolveS at hv
    split at hv
    · rename_i w
      rw [List.mem_singleton.1 hv]
      have : (decideS fs clock { s with waiting := false } { s.last with seq := s.seq, kind := kd }).1.e = { s.last with seq := s.seq, kind := kd } := by
        unfold decideS; repeat' split
        all_goals rfl
      rw [this]
      exact h w
    · cases hv
  · unfold resolveS decideS
    repeat' split
    all_goals rfl
theorem left_keep (s : Sp) (f c : Bool) : (leftS s f c).last = s.last ∧ (leftS s f c).waiting = s.waiting := by
  unfold leftS; cases f <;> cases c <;> exact ⟨rfl, rfl⟩
theorem enter_sz {s : Sp} {e : En} (h : s.waiting = true → Sz s.last) : (∀ v ∈ (enterS fs clock s e).1, Sz v.e) ∧ (enterS fs clock s e).2.last = s.last ∧ ((enterS fs clock s e).2.waiting = true → Sz s.last) := by
  unfold enterS
  split
  · exact ⟨(fun v hv => nomatch hv), rfl, h⟩
  · obtain ⟨r1, r2, r3⟩ := resolve_sz (fs := fs) (clock := clock) (kd := 3) h
    refine ⟨r1, (left_keep _ _ _).1.trans r2, fun z => ?_⟩
    have z' : (leftS (resolveS fs clock s 3).2 (sameFam s e) (sameCol s e)).waiting = true := z
    rw [(left_keep _ _ _).2, r3] at z'
    cases z'
theorem decide_e (s : Sp) (e : En) : (decideS fs clock s e).1.e = e := by
  unfold decideS; repeat' split
  all_goals rfl
theorem step_sz {s : Sp} {e : En} (h : s.waiting = true → Sz s.last) (he : Sz e) : (∀ v ∈ (stepS fs clock s e).1, Sz v.e) ∧ ((stepS fs clock s e).2.waiting = true → Sz (stepS fs clock s e).2.last) := by
  obtain ⟨r1, r2, r3⟩ := enter_sz (fs := fs) (clock := clock) (e := e) h
  refine ⟨fun v hv => ?_, fun _ => by rw [step_last]; exact he⟩
  unfold stepS at hv
  have st : (stretchS (enterS fs clock s e).2 e).1.e = e := by unfold stretchS; split <;> rfl
  split at hv
  · rcases List.mem_append.1 hv with q | q
    · exact r1 v q
    · rw [List.mem_singleton.1 q, st]; exact he
  · split at hv
    · split at hv
      · rcases List.mem_append.1 hv with q | q
        · exact r1 v q
        · rcases List.mem_append.1 q with q | q
          · exact (resolve_sz (fs := fs) (clock := clock) (kd := 2) (s := (enterS fs clock s e).2) (fun z => by rw [r2]; exact r3 z)).1 v q
          · rw [List.mem_singleton.1 q]; exact he
      · rcases List.mem_append.1 hv with q | q
        · exact r1 v q
        · rw [List.mem_singleton.1 q]; exact he
    · split at hv
      · exact r1 v hv
      · rcases List.mem_append.1 hv with q | q
        · exact r1 v q
        · rw [List.mem_singleton.1 q, decide_e]; exact he
theorem Pushed.sz (h : Pushed fs clock k l m s us) (hl : ∀ x ∈ l, Sz x.dat) : (∀ v ∈ us, Sz v.e) ∧ (∀ v ∈ (resolveS fs clock s 3).1, Sz v.e) := by
  have gen : (∀ v ∈ us, Sz v.e) ∧ (s.waiting = true → Sz s.last) := by
    induction h with
    | nil => exact ⟨(fun v hv => nomatch hv), (fun z => nomatch z)⟩
    | @twin l m s vs e y h hy he ih =>
      obtain ⟨i1, i2⟩ := ih (fun x hx => hl x (List.mem_append_left _ hx))
      refine ⟨fun v hv => ?_, i2⟩
      rcases List.mem_append.1 hv with q | q
      · exact i1 v q
      · rw [List.mem_singleton.1 q]; exact hl e (List.mem_append_right _ List.mem_cons_self)
    | @step l m s vs e h ho hc ih =>
      obtain ⟨i1, i2⟩ := ih (fun x hx => hl x (List.mem_append_left _ hx))
      obtain ⟨s1, s2⟩ := step_sz (fs := fs) (clock := clock) (e := e.dat) i2 (hl e (List.mem_append_right _ List.mem_cons_self))
      refine ⟨fun v hv => ?_, s2⟩
      rcases List.mem_append.1 hv with q | q
      · exact i1 v q
      · exact s1 v q
  exact ⟨gen.1, (resolve_sz gen.2).1⟩
end
structure Kd (fs : List (Int × Int)) (clock : Int) (k : Nat) (OO : List Vd → List En) (wa : List En → List En) : Prop where
  nil : OO [] = []
  pre : ∀ a b, ∃ c, OO (a ++ b) = OO a ++ c
  app : ∀ a b, Gd false b → OO (a ++ b) = OO a ++ OO b
  mem : ∀ vs, ∀ e ∈ OO vs, ∃ v ∈ vs, v.e = e
  len : ∀ vs, (OO vs).length ≤ vs.length
  all : ∀ {l m : List EntD} {s : Sp} {us : List Vd}, Pushed fs clock k l m s us → OO (us ++ (resolveS fs clock s 3).1) = wa (m.map EntD.dat)
theorem kd_filter (fs : List (Int × Int)) (clock : Int) (k : Nat) (major : Bool) (low : Int) : Kd fs clock k (outS major low) (fun m => leftL fs clock m major low) where
  nil := rfl
  pre := fun a b => ⟨_, out_append major low a b⟩
  app := fun a b _ => out_append major low a b
  mem := fun vs e he => by
    obtain ⟨v, hv, rfl⟩ := List.mem_map.1 he
    exact ⟨v, (List.mem_filter.1 hv).1, rfl⟩
  len := fun vs => by
    unfold outS
    rw [List.length_map]
    exact List.length_filter_le _ _
  all := fun h => by
    rw [(h.out major low).2]
    exact out_tld h.isOrd.ah h.isOrd.va major low
section
variable {fs : List (Int × Int)} {clock : Int} {k : Nat} {l m : List EntD} {s : Sp} {us : List Vd}
theorem push_new {s : SpD} {e : EntD} (hE : pushE k s e = 0) (hb : s.begun = true) (hr : s.last.row ≠ e.row) : ∃ c, (pushS k fs clock s e).1 = (resolveS fs clock s.dat 3).1 ++ c := by
  unfold pushS
  rw [if_neg (by rw [hE]; decide), if_neg (fun z => hr (congrArg En.row (sameS_dat z.2)).symm)]
  have g : sameGrp s.dat e.dat = false := by
    have : decide (s.dat.last.row = e.dat.row) = false := decide_eq_false hr
    simp [sameGrp, sameCol, sameFam, this]
  have en : (enterS fs clock s.dat e.dat).1 = (resolveS fs clock s.dat 3).1 := by
    unfold enterS
    rw [g]
    rfl
  unfold stepS
  rw [en, g]
  split
  · exact ⟨_, rfl⟩
  · rw [if_neg (by decide)]
    split
    · exact ⟨[], by simp⟩
    · exact ⟨_, rfl⟩
end
end Go.Proofs.YthhkpkfpifllkaaGreat
