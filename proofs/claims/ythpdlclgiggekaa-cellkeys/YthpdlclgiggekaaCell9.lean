import Derived.Test.YthpdlclgiggekaaCell8
namespace Go.Proofs.Ythpdlclgiggekaa
open Go.RowKit
set_option linter.unusedVariables false

/-- What ParseKey answers. -/
def Parsed (w w' : World) (r : Ending) (row qual : List Nat) (fam ts sq kd : Nat) (good : Prop) : Prop :=
  (¬ good → r = .returned (.tuple #[.agg #[.slice none 0 0, .int .i64 0, .slice none 0 0, .int .i64 0, .int .i64 0, .int .i64 0, .slice none 0 0], .int .i64 27])) ∧
  (good → ∃ vr vq, r = .returned (.tuple #[.agg #[vr, .int .i64 (fam : Int), vq, .int .i64 (ts : Int), .int .i64 (sq : Int), .int .i64 (kd : Int), .slice none 0 0], .int .i64 0]) ∧ Own w' w.heap.size vr row.length row ∧ ∃ B, w.heap.size ≤ B ∧ Own w' B vq qual.length qual ∧ ∀ k, vr.ownBlock = some k → k < B) ∧
  Below w.heap.size w w'

set_option maxRecDepth 100000 in
set_option maxHeartbeats 8000000 in
theorem parse_read {w : World} {m c : Nat} {a : Option Addr} {bs row qual : List Nat} {fam ts sq kd p : Nat} {ok : Prop} (hr : Rd w (.slice a m c) bs) (hbr : Bys row ∧ row.length ≤ 281474976710656) (hbq : Bys qual ∧ qual.length ≤ 281474976710656)
    (hc : ∀ W g, RBox W g (.slice a m c) ((0 : Nat) : Int) false → Rd W (.slice a m c) bs → Calls Try.prog 63 #[.pointer (some ⟨g, 0, none⟩)] W fun e w' => Read W w' g (.slice a m c) e row qual fam ts sq kd p ok) :
    Calls Try.prog 25 #[.slice a m c] w fun e w' => Parsed w w' e row qual fam ts sq kd (ok ∧ p = m ∧ checkS ⟨.slice none 0 0, fam, .slice none 0 0, ts, sq, kd, .slice none 0 0, row, qual, []⟩ = 0) := by
  have A1 := (Below.refl w.heap.size w).alloc (Nat.le_refl _) (.cells (EntD.cells ⟨.slice none 0 0, 0, .slice none 0 0, 0, 0, 0, .slice none 0 0, [], [], []⟩) 35)
  have b1 := EBox.new w ⟨.slice none 0 0, 0, .slice none 0 0, 0, 0, 0, .slice none 0 0, [], [], []⟩
  obtain ⟨w1, hw1⟩ : ∃ w1, w1 = w.alloc (.cells (EntD.cells ⟨.slice none 0 0, 0, .slice none 0 0, 0, 0, 0, .slice none 0 0, [], [], []⟩) 35) := ⟨_, rfl⟩
  have e1 : w1.heap.size = w.heap.size + 1 := by rw [hw1]; show (w.heap.push _).size = _; simp
  rw [← hw1] at A1 b1
  have A2 := (Below.refl w1.heap.size w1).alloc (Nat.le_refl _) (.cells (rcells (.slice a m c) ((0 : Nat) : Int) false) 93)
  have b2 := RBox.new w1 (.slice a m c) ((0 : Nat) : Int) false
  have A3 := A1.trans (A2.mono A1.size)
  have c1 := hc _ _ b2 (hr.later A3)
  have b1' := b1.later A2
  rw [e1] at c1 b2
  rw [hw1] at A3 c1 b1' b2
  have HX : Hid (EBox _ w.heap.size _ ∧ Below w.heap.size w _ ∧ RBox _ _ _ _ _ ∧ Rd w (.slice a m c) bs) := ⟨b1', A3, b2, hr⟩
  have HC : Hid (Calls _ _ _ _ _) := c1
  clear c1 hc A3 A2 A1 b1 b2 b1' e1 hw1 w1 hr
  simp only [rcells, EntD.cells] at HC HX
  go_enter Try.func25, Try.ntmps25
  go_wp2_with fail
  refine HC.out.mono ?_
  rintro e1 w2 ⟨vr, vq, bad, rfl, own1, ⟨B2, hB2, own2, hlt⟩, rb, hbad, ap⟩
  obtain ⟨a1, c1, rfl⟩ := own_form own1.2
  obtain ⟨a6, c6, rfl⟩ := own_form own2.2
  have eb := HX.out.1.apart ap (by omega)
  have HR : Hid (RBox w2 _ _ _ _) := rb
  obtain ⟨D, hD⟩ : ∃ D : EntD, D = ⟨.slice a1 row.length c1, fam, .slice a6 qual.length c6, ts, sq, kd, .slice none 0 0, row, qual, []⟩ := ⟨_, rfl⟩
  have A4 := (Below.refl w2.heap.size w2).alloc (Nat.le_refl _) (.cells D.cells 35)
  have ed := EBox.new w2 D
  have eb3 := eb.later A4
  have rb3 := HR.out.later A4
  have BW : Below w.heap.size w (w2.alloc (.cells D.cells 35)) := (HX.out.2.1.trans (ap.below (by omega) HX.out.2.1.size)).trans (A4.mono (Nat.le_trans HX.out.2.1.size ap.size))
  have ok3 : EntD.Ok (w2.alloc (.cells D.cells 35)) D := by
    subst hD
    exact ⟨(own1.rd hbr.1 hbr.2).later A4, (own2.rd hbq.1 hbq.2).later A4, Rd.nil _⟩
  have ck := check_any ok3
  subst hD
  simp only [EntD.cells] at ed eb3 rb3 ck BW
  have z1 := rb3.vb
  have z2 := rb3.vk
  have z3 := rb3.vd
  have y0 := eb3.vr
  have y1 := eb3.fam
  have y2 := eb3.vq
  have y3 := eb3.ts
  have y4 := eb3.seq
  have y5 := eb3.kind
  have y6 := eb3.vv
  have v0 := eb3.fz 0
  have v1 := eb3.fz 1
  have v2 := eb3.fz 2
  have v3 := eb3.fz 3
  have v4 := eb3.fz 4
  have v5 := eb3.fz 5
  have v6 := eb3.fz 6
  have u0 := ed.vr
  have u1 := ed.fam
  have u2 := ed.vq
  have u3 := ed.ts
  have u4 := ed.seq
  have u5 := ed.kind
  have u6 := ed.vv
  have HCK : Hid (Calls _ _ _ _ _) := ck
  clear HC rb ck eb ok3
  simp only at y0 y1 y2 y3 y4 y5 y6 u0 u1 u2 u3 u4 u5 u6 z1 z2 z3
  have HE3 : Hid (EBox _ w.heap.size _) := eb3
  have HBW : Hid (Below w.heap.size w _) := BW
  clear eb3 BW
  cases bad with
  | true =>
    have HN : Hid (¬ ok) := fun h => by have := hbad.2 h; cases this
    clear hbad
    have fa := filled_apart (w2.alloc (.cells #[.slice a1 row.length c1, .int .i64 (fam : Int), .slice a6 qual.length c6, .int .i64 (ts : Int), .int .i64 (sq : Int), .int .i64 (kd : Int), .slice none 0 0] 35)) w.heap.size ⟨.slice none 0 0, 0, .slice none 0 0, 0, 0, 0, .slice none 0 0, [], [], []⟩
    have fb := filled_box (HE3.out) ⟨.slice none 0 0, 0, .slice none 0 0, 0, 0, 0, .slice none 0 0, [], [], []⟩
    have bw : Below w.heap.size w (filled (w2.alloc (.cells #[.slice a1 row.length c1, .int .i64 (fam : Int), .slice a6 qual.length c6, .int .i64 (ts : Int), .int .i64 (sq : Int), .int .i64 (kd : Int), .slice none 0 0] 35)) w.heap.size ⟨.slice none 0 0, 0, .slice none 0 0, 0, 0, 0, .slice none 0 0, [], [], []⟩) := (HBW.out).trans (fa.below (Nat.le_refl _) (HBW.out).size)
    have HDN : Hid (_ ∧ _) := ⟨fb, bw⟩
    clear fa fb bw
    simp only [filled] at HDN
    go_wp2
    obtain ⟨fb, bw⟩ := HDN.out
    clear HDN
    generalize ((((((((w2.alloc (.cells #[.slice a1 row.length c1, .int .i64 (fam : Int), .slice a6 qual.length c6, .int .i64 (ts : Int), .int .i64 (sq : Int), .int .i64 (kd : Int), .slice none 0 0] 35)).setCell ⟨w.heap.size, 0, none⟩ (.slice none 0 0)).setCell ⟨w.heap.size, 1, none⟩ (.int .i64 0)).setCell ⟨w.heap.size, 2, none⟩ (.slice none 0 0)).setCell ⟨w.heap.size, 3, none⟩ (.int .i64 0)).setCell ⟨w.heap.size, 4, none⟩ (.int .i64 0)).setCell ⟨w.heap.size, 5, none⟩ (.int .i64 0)).setCell ⟨w.heap.size, 6, none⟩ (.slice none 0 0)) = wz at fb bw ⊢
    have t0 := fb.vr
    have t1 := fb.fam
    have t2 := fb.vq
    have t3 := fb.ts
    have t4 := fb.seq
    have t5 := fb.kind
    have t6 := fb.vv
    simp only at t0 t1 t2 t3 t4 t5 t6
    (try simp only [Exit.inBlock, Exit.then])
    refine bodyPost_ret (v := .tuple #[.agg #[.slice none 0 0, .int .i64 0, .slice none 0 0, .int .i64 0, .int .i64 0, .int .i64 0, .slice none 0 0], .int .i64 27]) ?hres rfl ?_
    case hres => simp [results, Try.results25, go_sem, t0, t1, t2, t3, t4, t5, t6]
    exact ⟨fun _ => rfl, fun h => absurd h (fun h => HN.out h.1), bw⟩
  | false =>
    have HOK : Hid ok := hbad.1 rfl
    clear hbad
    have hml := rd_lens HX.out.2.2.2
    have hml2 := hml.2.2.2
    clear hml
    by_cases hp : p = m
    · have hp1 : ((p : Int) != (m : Int)) = false := by simp; omega
      have hp2 : (p : Int) = (m : Int) := by omega
      go_wp2_with fail
      refine HCK.out.mono ?_
      rintro e4 w4 ⟨rfl, hb4⟩
      have E4 : EBox w4 w.heap.size _ := HE3.out.later hb4
      have D4 : EBox w4 w2.heap.size _ := ed.later hb4
      have HB4 : Hid (Below w.heap.size w w4) := HBW.out.trans (hb4.mono HBW.out.size)
      have HO : Hid (Own w4 _ (.slice a1 row.length c1) row.length row ∧ Own w4 B2 (.slice a6 qual.length c6) qual.length qual) := ⟨(own1.later A4).later hb4, (own2.later A4).later hb4⟩
      obtain ⟨C, hC⟩ : ∃ C, C = checkS ⟨.slice a1 row.length c1, fam, .slice a6 qual.length c6, ts, sq, kd, .slice none 0 0, row, qual, []⟩ := ⟨_, rfl⟩
      rw [← hC]
      have HCC : Hid (C = checkS ⟨.slice none 0 0, fam, .slice none 0 0, ts, sq, kd, .slice none 0 0, row, qual, []⟩) := hC
      have y0 := E4.vr
      have y1 := E4.fam
      have y2 := E4.vq
      have y3 := E4.ts
      have y4 := E4.seq
      have y5 := E4.kind
      have y6 := E4.vv
      have v0 := E4.fz 0
      have v1 := E4.fz 1
      have v2 := E4.fz 2
      have v3 := E4.fz 3
      have v4 := E4.fz 4
      have v5 := E4.fz 5
      have v6 := E4.fz 6
      have u0 := D4.vr
      have u1 := D4.fam
      have u2 := D4.vq
      have u3 := D4.ts
      have u4 := D4.seq
      have u5 := D4.kind
      have u6 := D4.vv
      simp only at y0 y1 y2 y3 y4 y5 y6 u0 u1 u2 u3 u4 u5 u6
      have HE4 : Hid (EBox w4 w.heap.size _) := E4
      clear E4 D4 hb4 hC HCK ed own1 own2 ap A4 HBW HE3
      dsimp only
      by_cases hz : C = 0
      · have hz1 : ((C : Int) != 0) = false := by simp; omega
        have hz2 : (C : Int) = 0 := by omega
        have fa := filled_apart w4 w.heap.size ⟨.slice a1 row.length c1, fam, .slice a6 qual.length c6, ts, sq, kd, .slice none 0 0, row, qual, []⟩
        have fb := filled_box (HE4.out) ⟨.slice a1 row.length c1, fam, .slice a6 qual.length c6, ts, sq, kd, .slice none 0 0, row, qual, []⟩
        have bw : Below w.heap.size w (filled w4 w.heap.size ⟨.slice a1 row.length c1, fam, .slice a6 qual.length c6, ts, sq, kd, .slice none 0 0, row, qual, []⟩) := (HB4.out).trans (fa.below (Nat.le_refl _) (HB4.out).size)
        have o1 := (HO.out.1.apartE (HE4.out) fa)
        have o2 := (HO.out.2.apartE (HE4.out) fa)
        have HDN : Hid (_ ∧ _ ∧ _ ∧ _) := ⟨fb, bw, o1, o2⟩
        clear fa fb bw o1 o2
        simp only [filled] at HDN
        go_wp2
        obtain ⟨fb, bw, o1, o2⟩ := HDN.out
        clear HDN
        generalize (((((((w4.setCell ⟨w.heap.size, 0, none⟩ (.slice a1 row.length c1)).setCell ⟨w.heap.size, 1, none⟩ (.int .i64 (fam : Int))).setCell ⟨w.heap.size, 2, none⟩ (.slice a6 qual.length c6)).setCell ⟨w.heap.size, 3, none⟩ (.int .i64 (ts : Int))).setCell ⟨w.heap.size, 4, none⟩ (.int .i64 (sq : Int))).setCell ⟨w.heap.size, 5, none⟩ (.int .i64 (kd : Int))).setCell ⟨w.heap.size, 6, none⟩ (.slice none 0 0)) = wz at fb bw o1 o2 ⊢
        have t0 := fb.vr
        have t1 := fb.fam
        have t2 := fb.vq
        have t3 := fb.ts
        have t4 := fb.seq
        have t5 := fb.kind
        have t6 := fb.vv
        simp only at t0 t1 t2 t3 t4 t5 t6
        (try simp only [Exit.inBlock, Exit.then])
        refine bodyPost_ret (v := .tuple #[.agg #[.slice a1 row.length c1, .int .i64 (fam : Int), .slice a6 qual.length c6, .int .i64 (ts : Int), .int .i64 (sq : Int), .int .i64 (kd : Int), .slice none 0 0], .int .i64 0]) ?hres rfl ?_
        case hres => simp [results, Try.results25, go_sem, t0, t1, t2, t3, t4, t5, t6]
        exact ⟨fun h => absurd ⟨HOK.out, hp, HCC.out.symm.trans hz⟩ h, fun _ => ⟨_, _, rfl, o1.mono HX.out.2.1.size, B2, Nat.le_trans HX.out.2.1.size hB2, o2, hlt⟩, bw⟩
      · have hz1 : ((C : Int) != 0) = true := by simp; omega
        have hz2 : ¬ ((C : Int) = 0) := by omega
        have fa := filled_apart w4 w.heap.size ⟨.slice none 0 0, 0, .slice none 0 0, 0, 0, 0, .slice none 0 0, [], [], []⟩
        have fb := filled_box (HE4.out) ⟨.slice none 0 0, 0, .slice none 0 0, 0, 0, 0, .slice none 0 0, [], [], []⟩
        have bw : Below w.heap.size w (filled w4 w.heap.size ⟨.slice none 0 0, 0, .slice none 0 0, 0, 0, 0, .slice none 0 0, [], [], []⟩) := (HB4.out).trans (fa.below (Nat.le_refl _) (HB4.out).size)
        have HDN : Hid (_ ∧ _) := ⟨fb, bw⟩
        clear fa fb bw
        simp only [filled] at HDN
        go_wp2
        obtain ⟨fb, bw⟩ := HDN.out
        clear HDN
        generalize (((((((w4.setCell ⟨w.heap.size, 0, none⟩ (.slice none 0 0)).setCell ⟨w.heap.size, 1, none⟩ (.int .i64 0)).setCell ⟨w.heap.size, 2, none⟩ (.slice none 0 0)).setCell ⟨w.heap.size, 3, none⟩ (.int .i64 0)).setCell ⟨w.heap.size, 4, none⟩ (.int .i64 0)).setCell ⟨w.heap.size, 5, none⟩ (.int .i64 0)).setCell ⟨w.heap.size, 6, none⟩ (.slice none 0 0)) = wz at fb bw ⊢
        have t0 := fb.vr
        have t1 := fb.fam
        have t2 := fb.vq
        have t3 := fb.ts
        have t4 := fb.seq
        have t5 := fb.kind
        have t6 := fb.vv
        simp only at t0 t1 t2 t3 t4 t5 t6
        (try simp only [Exit.inBlock, Exit.then])
        refine bodyPost_ret (v := .tuple #[.agg #[.slice none 0 0, .int .i64 0, .slice none 0 0, .int .i64 0, .int .i64 0, .int .i64 0, .slice none 0 0], .int .i64 27]) ?hres rfl ?_
        case hres => simp [results, Try.results25, go_sem, t0, t1, t2, t3, t4, t5, t6]
        exact ⟨fun _ => rfl, fun h => absurd h (fun h => hz (HCC.out.trans h.2.2)), bw⟩
    · have hp1 : ((p : Int) != (m : Int)) = true := by simp; omega
      have hp2 : ¬ ((p : Int) = (m : Int)) := by omega
      have fa := filled_apart (w2.alloc (.cells #[.slice a1 row.length c1, .int .i64 (fam : Int), .slice a6 qual.length c6, .int .i64 (ts : Int), .int .i64 (sq : Int), .int .i64 (kd : Int), .slice none 0 0] 35)) w.heap.size ⟨.slice none 0 0, 0, .slice none 0 0, 0, 0, 0, .slice none 0 0, [], [], []⟩
      have fb := filled_box (HE3.out) ⟨.slice none 0 0, 0, .slice none 0 0, 0, 0, 0, .slice none 0 0, [], [], []⟩
      have bw : Below w.heap.size w (filled (w2.alloc (.cells #[.slice a1 row.length c1, .int .i64 (fam : Int), .slice a6 qual.length c6, .int .i64 (ts : Int), .int .i64 (sq : Int), .int .i64 (kd : Int), .slice none 0 0] 35)) w.heap.size ⟨.slice none 0 0, 0, .slice none 0 0, 0, 0, 0, .slice none 0 0, [], [], []⟩) := (HBW.out).trans (fa.below (Nat.le_refl _) (HBW.out).size)
      have HDN : Hid (_ ∧ _) := ⟨fb, bw⟩
      clear fa fb bw
      simp only [filled] at HDN
      go_wp2
      obtain ⟨fb, bw⟩ := HDN.out
      clear HDN
      generalize ((((((((w2.alloc (.cells #[.slice a1 row.length c1, .int .i64 (fam : Int), .slice a6 qual.length c6, .int .i64 (ts : Int), .int .i64 (sq : Int), .int .i64 (kd : Int), .slice none 0 0] 35)).setCell ⟨w.heap.size, 0, none⟩ (.slice none 0 0)).setCell ⟨w.heap.size, 1, none⟩ (.int .i64 0)).setCell ⟨w.heap.size, 2, none⟩ (.slice none 0 0)).setCell ⟨w.heap.size, 3, none⟩ (.int .i64 0)).setCell ⟨w.heap.size, 4, none⟩ (.int .i64 0)).setCell ⟨w.heap.size, 5, none⟩ (.int .i64 0)).setCell ⟨w.heap.size, 6, none⟩ (.slice none 0 0)) = wz at fb bw ⊢
      have t0 := fb.vr
      have t1 := fb.fam
      have t2 := fb.vq
      have t3 := fb.ts
      have t4 := fb.seq
      have t5 := fb.kind
      have t6 := fb.vv
      simp only at t0 t1 t2 t3 t4 t5 t6
      (try simp only [Exit.inBlock, Exit.then])
      refine bodyPost_ret (v := .tuple #[.agg #[.slice none 0 0, .int .i64 0, .slice none 0 0, .int .i64 0, .int .i64 0, .int .i64 0, .slice none 0 0], .int .i64 27]) ?hres rfl ?_
      case hres => simp [results, Try.results25, go_sem, t0, t1, t2, t3, t4, t5, t6]
      exact ⟨fun _ => rfl, fun h => absurd h (fun h => hp h.2.1), bw⟩
end Go.Proofs.Ythpdlclgiggekaa
