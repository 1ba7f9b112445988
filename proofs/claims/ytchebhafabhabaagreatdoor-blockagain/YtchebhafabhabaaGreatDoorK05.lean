import Derived.Test.YtchebhafabhabaaGreatDoorK04
namespace Go.Proofs.YtchebhafabhabaaGreatDoor
open Go.RowKit
set_option linter.unusedVariables false

def Parsed (w w' : World) (r : Ending) (row qual : List Nat) (fam ts sq kd : Nat) (good : Prop) : Prop :=
  (¬ good → r = .returned (.tuple #[.agg #[.slice none 0 0, .int .i64 0, .slice none 0 0, .int .i64 0, .int .i64 0, .int .i64 0, .slice none 0 0], .int .i64 27])) ∧
  (good → ∃ vr vq, r = .returned (.tuple #[.agg #[vr, .int .i64 (fam : Int), vq, .int .i64 (ts : Int), .int .i64 (sq : Int), .int .i64 (kd : Int), .slice none 0 0], .int .i64 0]) ∧ Own w' w.heap.size vr row.length row ∧ ∃ B, w.heap.size ≤ B ∧ Own w' B vq qual.length qual ∧ ∀ k, vr.ownBlock = some k → k < B) ∧
  Below w.heap.size w w'

set_option maxRecDepth 100000 in
set_option maxHeartbeats 8000000 in
theorem parse_read {w : World} {m c : Nat} {a : Option Addr} {bs row qual : List Nat} {fam ts sq kd p : Nat} {ok : Prop} (hr : Rd w (.slice a m c) bs) (hbr : Bys row ∧ row.length ≤ 281474976710656) (hbq : Bys qual ∧ qual.length ≤ 281474976710656)
    (hc : ∀ W g, RBox W g (.slice a m c) ((0 : Nat) : Int) false → Rd W (.slice a m c) bs → Calls Tryz.prog 116 #[.pointer (some ⟨g, 0, none⟩)] W fun e w' => Read W w' g (.slice a m c) e row qual fam ts sq kd p ok) :
    Calls Tryz.prog 104 #[.slice a m c] w fun e w' => Parsed w w' e row qual fam ts sq kd (ok ∧ p = m ∧ checkS ⟨.slice none 0 0, fam, .slice none 0 0, ts, sq, kd, .slice none 0 0, row, qual, []⟩ = 0) := by
  have A1 := (Below.refl w.heap.size w).alloc (Nat.le_refl _) (.cells (EntD.cells ⟨.slice none 0 0, 0, .slice none 0 0, 0, 0, 0, .slice none 0 0, [], [], []⟩) 40)
  have b1 := EBox.new w ⟨.slice none 0 0, 0, .slice none 0 0, 0, 0, 0, .slice none 0 0, [], [], []⟩
  obtain ⟨w1, hw1⟩ : ∃ w1, w1 = w.alloc (.cells (EntD.cells ⟨.slice none 0 0, 0, .slice none 0 0, 0, 0, 0, .slice none 0 0, [], [], []⟩) 40) := ⟨_, rfl⟩
  have e1 : w1.heap.size = w.heap.size + 1 := by rw [hw1]; show (w.heap.push _).size = _; simp
  rw [← hw1] at A1 b1
  have A2 := (Below.refl w1.heap.size w1).alloc (Nat.le_refl _) (.cells (rcells (.slice a m c) ((0 : Nat) : Int) false) 151)
  have b2 := RBox.new w1 (.slice a m c) ((0 : Nat) : Int) false
  have A3 := A1.trans (A2.mono A1.size)
  have c1 := hc _ _ b2 (hr.later A3)
  have b1' := b1.later A2
  rw [e1] at c1 b2
  rw [hw1] at A3 c1 b1' b2
  have HX : Hid (EBox _ w.heap.size _ ∧ Below w.heap.size w _ ∧ RBox _ _ _ _ _ ∧ Rd w (.slice a m c) bs) := ⟨b1', A3, b2, hr⟩
  have HC : Hid (Calls _ _ _ _ _) := c1
  clear c1 hc A3 A2 A1 b1 b2 b1' e1 hw1 w1 hr
  simp only [rcells, EntD.cells] at HC HX
  go_enter Tryz.func104, Tryz.ntmps104
  go_wp2_with fail
  refine HC.out.mono ?_
  rintro e1 w2 ⟨vr, vq, bad, rfl, own1, ⟨B2, hB2, own2, hlt⟩, rb, hbad, ap⟩
  obtain ⟨a1, c1, rfl⟩ := own_form own1.2
  obtain ⟨a6, c6, rfl⟩ := own_form own2.2
  have eb := HX.out.1.apart ap (by omega)
  have HR : Hid (RBox w2 _ _ _ _) := rb
  obtain ⟨D, hD⟩ : ∃ D : EntD, D = ⟨.slice a1 row.length c1, fam, .slice a6 qual.length c6, ts, sq, kd, .slice none 0 0, row, qual, []⟩ := ⟨_, rfl⟩
  have A4 := (Below.refl w2.heap.size w2).alloc (Nat.le_refl _) (.cells D.cells 40)
  have ed := EBox.new w2 D
  have eb3 := eb.later A4
  have rb3 := HR.out.later A4
  have BW : Below w.heap.size w (w2.alloc (.cells D.cells 40)) := (HX.out.2.1.trans (ap.below (by omega) HX.out.2.1.size)).trans (A4.mono (Nat.le_trans HX.out.2.1.size ap.size))
  have ok3 : EntD.Ok (w2.alloc (.cells D.cells 40)) D := by
    subst hD
    exact ⟨(own1.rd hbr.1 hbr.2).later A4, (own2.rd hbq.1 hbq.2).later A4, Rd.nil _⟩
  have ck := check_any ok3
  subst hD
  simp only [EntD.cells] at ed eb3 rb3 ck BW
  have z1 := rb3.vb
  have z2 := rb3.vk
  have z3 := rb3.vd
  have y0 := eb3.vr
  have y1 := eb3.fam
  have y2 := eb3.vq
  have y3 := eb3.ts
  have y4 := eb3.seq
  have y5 := eb3.kind
  have y6 := eb3.vv
  have v0 := eb3.fz 0
  have v1 := eb3.fz 1
  have v2 := eb3.fz 2
  have v3 := eb3.fz 3
  have v4 := eb3.fz 4
  have v5 := eb3.fz 5
  have v6 := eb3.fz 6
  have u0 := ed.vr
  have u1 := ed.fam
  have u2 := ed.vq
  have u3 := ed.ts
  have u4 := ed.seq
  have u5 := ed.kind
  have u6 := ed.vv
  have HCK : Hid (Calls _ _ _ _ _) := ck
  clear HC rb ck eb ok3
  simp only at y0 y1 y2 y3 y4 y5 y6 u0 u1 u2 u3 u4 u5 u6 z1 z2 z3
  have HE3 : Hid (EBox _ w.heap.size _) := eb3
  have HBW : Hid (Below w.heap.size w _) := BW
  clear eb3 BW
  cases bad with
  | true =>
    have HN : Hid (¬ ok) := fun h => by have := hbad.2 h; cases this
    clear hbad
    have fa := filled_apart (w2.alloc (.cells #[.slice a1 row.length c1, .int .i64 (fam : Int), .slice a6 qual.length c6, .int .i64 (ts : Int), .int .i64 (sq : Int), .int .i64 (kd : Int), .slice none 0 0] 40)) w.heap.size ⟨.slice none 0 0, 0, .slice none 0 0, 0, 0, 0, .slice none 0 0, [], [], []⟩
    have fb := filled_box (HE3.out) ⟨.slice none 0 0, 0, .slice none 0 0, 0, 0, 0, .slice none 0 0, [], [], []⟩
    have bw : Below w.heap.size w (filled (w2.alloc (.cells #[.slice a1 row.length c1, .int .i64 (fam : Int), .slice a6 qual.length c6, .int .i64 (ts : Int), .int .i64 (sq : Int), .int .i64 (kd : Int), .slice none 0 0] 40)) w.heap.size ⟨.slice none 0 0, 0, .slice none 0 0, 0, 0, 0, .slice none 0 0, [], [], []⟩) := (HBW.out).trans (fa.below (Nat.le_refl _) (HBW.out).size)
    have HDN : Hid (_ ∧ _) := ⟨fb, bw⟩
    clear fa fb bw
    simp only [filled] at HDN
    go_wp2
    obtain ⟨fb, bw⟩ := HDN.out
    clear HDN
    generalize ((((((((w2.alloc (.cells #[.slice a1 row.length c1, .int .i64 (fam : Int), .slice a6 qual.length c6, .int .i64 (ts : Int), .int .i64 (sq : Int), .int .i64 (kd : Int), .slice none 0 0] 40)).setCell ⟨w.heap.size, 0, none⟩ (.slice none 0 0)).setCell ⟨w.heap.size, 1, none⟩ (.int .i64 0)).setCell ⟨w.heap.size, 2, none⟩ (.slice none 0 0)).setCell ⟨w.heap.size, 3, none⟩ (.int .i64 0)).setCell ⟨w.heap.size, 4, none⟩ (.int .i64 0)).setCell ⟨w.heap.size, 5, none⟩ (.int .i64 0)).setCell ⟨w.heap.size, 6, none⟩ (.slice none 0 0)) = wz at fb bw ⊢
    have t0 := fb.vr
    have t1 := fb.fam
    have t2 := fb.vq
    have t3 := fb.ts
    have t4 := fb.seq
    have t5 := fb.kind
    have t6 := fb.vv
    simp only at t0 t1 t2 t3 t4 t5 t6
    (try simp only [Exit.inBlock, Exit.then])
    refine bodyPost_ret (v := .tuple #[.agg #[.slice none 0 0, .int .i64 0, .slice none 0 0, .int .i64 0, .int .i64 0, .int .i64 0, .slice none 0 0], .int .i64 27]) ?hres rfl ?_
    case hres => simp [results, Tryz.results104, go_sem, t0, t1, t2, t3, t4, t5, t6]
    exact ⟨fun _ => rfl, fun h => absurd h (fun h => HN.out h.1), bw⟩
  | false =>
    have HOK : Hid ok := hbad.1 rfl
    clear hbad
    have hml := rd_lens HX.out.2.2.2
    have hml2 := hml.2.2.2
    clear hml
    by_cases hp : p = m
    · have hp1 : ((p : Int) != (m : Int)) = false := by simp; omega
      have hp2 : (p : Int) = (m : Int) := by omega
      go_wp2_with fail
      refine HCK.out.mono ?_
      rintro e4 w4 ⟨rfl, hb4⟩
      have E4 : EBox w4 w.heap.size _ := HE3.out.later hb4
      have D4 : EBox w4 w2.heap.size _ := ed.later hb4
      have HB4 : Hid (Below w.heap.size w w4) := HBW.out.trans (hb4.mono HBW.out.size)
      have HO : Hid (Own w4 _ (.slice a1 row.length c1) row.length row ∧ Own w4 B2 (.slice a6 qual.length c6) qual.length qual) := ⟨(own1.later A4).later hb4, (own2.later A4).later hb4⟩
      obtain ⟨C, hC⟩ : ∃ C, C = checkS ⟨.slice a1 row.length c1, fam, .slice a6 qual.length c6, ts, sq, kd, .slice none 0 0, row, qual, []⟩ := ⟨_, rfl⟩
      rw [← hC]
      have HCC : Hid (C = checkS ⟨.slice none 0 0, fam, .slice none 0 0, ts, sq, kd, .slice none 0 0, row, qual, []⟩) := hC
      have y0 := E4.vr
      have y1 := E4.fam
      have y2 := E4.vq
      have y3 := E4.ts
      have y4 := E4.seq
      have y5 := E4.kind
      have y6 := E4.vv
      have v0 := E4.fz 0
      have v1 := E4.fz 1
      have v2 := E4.fz 2
      have v3 := E4.fz 3
      have v4 := E4.fz 4
      have v5 := E4.fz 5
      have v6 := E4.fz 6
      have u0 := D4.vr
      have u1 := D4.fam
      have u2 := D4.vq
      have u3 := D4.ts
      have u4 := D4.seq
      have u5 := D4.kind
      have u6 := D4.vv
      simp only at y0 y1 y2 y3 y4 y5 y6 u0 u1 u2 u3 u4 u5 u6
      have HE4 : Hid (EBox w4 w.heap.size _) := E4
      clear E4 D4 hb4 hC HCK ed own1 own2 ap A4 HBW HE3
      dsimp only
      by_cases hz : C = 0
      · have hz1 : ((C : Int) != 0) = false := by simp; omega
        have hz2 : (C : Int) = 0 := by omega
        have fa := filled_apart w4 w.heap.size ⟨.slice a1 row.length c1, fam, .slice a6 qual.length c6, ts, sq, kd, .slice none 0 0, row, qual, []⟩
        have fb := filled_box (HE4.out) ⟨.slice a1 row.length c1, fam, .slice a6 qual.length c6, ts, sq, kd, .slice none 0 0, row, qual, []⟩
        have bw : Below w.heap.size w (filled w4 w.heap.size ⟨.slice a1 row.length c1, fam, .slice a6 qual.length c6, ts, sq, kd, .slice none 0 0, row, qual, []⟩) := (HB4.out).trans (fa.below (Nat.le_refl _) (HB4.out).size)
        have o1 := (HO.out.1.apartE (HE4.out) fa)
        have o2 := (HO.out.2.apartE (HE4.out) fa)
        have HDN : Hid (_ ∧ _ ∧ _ ∧ _) := ⟨fb, bw, o1, o2⟩
        clear fa fb bw o1 o2
        simp only [filled] at HDN
        go_wp2
        obtain ⟨fb, bw, o1, o2⟩ := HDN.out
        clear HDN
        generalize (((((((w4.setCell ⟨w.heap.size, 0, none⟩ (.slice a1 row.length c1)).setCell ⟨w.heap.size, 1, none⟩ (.int .i64 (fam : Int))).setCell ⟨w.heap.size, 2, none⟩ (.slice a6 qual.length c6)).setCell ⟨w.heap.size, 3, none⟩ (.int .i64 (ts : Int))).setCell ⟨w.heap.size, 4, none⟩ (.int .i64 (sq : Int))).setCell ⟨w.heap.size, 5, none⟩ (.int .i64 (kd : Int))).setCell ⟨w.heap.size, 6, none⟩ (.slice none 0 0)) = wz at fb bw o1 o2 ⊢
        have t0 := fb.vr
        have t1 := fb.fam
        have t2 := fb.vq
        have t3 := fb.ts
        have t4 := fb.seq
        have t5 := fb.kind
        have t6 := fb.vv
        simp only at t0 t1 t2 t3 t4 t5 t6
        (try simp only [Exit.inBlock, Exit.then])
        refine bodyPost_ret (v := .tuple #[.agg #[.slice a1 row.length c1, .int .i64 (fam : Int), .slice a6 qual.length c6, .int .i64 (ts : Int), .int .i64 (sq : Int), .int .i64 (kd : Int), .slice none 0 0], .int .i64 0]) ?hres rfl ?_
        case hres => simp [results, Tryz.results104, go_sem, t0, t1, t2, t3, t4, t5, t6]
        exact ⟨fun h => absurd ⟨HOK.out, hp, HCC.out.symm.trans hz⟩ h, fun _ => ⟨_, _, rfl, o1.mono HX.out.2.1.size, B2, Nat.le_trans HX.out.2.1.size hB2, o2, hlt⟩, bw⟩
      · have hz1 : ((C : Int) != 0) = true := by simp; omega
        have hz2 : ¬ ((C : Int) = 0) := by omega
        have fa := filled_apart w4 w.heap.size ⟨.slice none 0 0, 0, .slice none 0 0, 0, 0, 0, .slice none 0 0, [], [], []⟩
        have fb := filled_box (HE4.out) ⟨.slice none 0 0, 0, .slice none 0 0, 0, 0, 0, .slice none 0 0, [], [], []⟩
        have bw : Below w.heap.size w (filled w4 w.heap.size ⟨.slice none 0 0, 0, .slice none 0 0, 0, 0, 0, .slice none 0 0, [], [], []⟩) := (HB4.out).trans (fa.below (Nat.le_refl _) (HB4.out).size)
        have HDN : Hid (_ ∧ _) := ⟨fb, bw⟩
        clear fa fb bw
        simp only [filled] at HDN
        go_wp2
        obtain ⟨fb, bw⟩ := HDN.out
        clear HDN
        generalize (((((((w4.setCell ⟨w.heap.size, 0, none⟩ (.slice none 0 0)).setCell ⟨w.heap.size, 1, none⟩ (.int .i64 0)).setCell ⟨w.heap.size, 2, none⟩ (.slice none 0 0)).setCell ⟨w.heap.size, 3, none⟩ (.int .i64 0)).setCell ⟨w.heap.size, 4, none⟩ (.int .i64 0)).setCell ⟨w.heap.size, 5, none⟩ (.int .i64 0)).setCell ⟨w.heap.size, 6, none⟩ (.slice none 0 0)) = wz at fb bw ⊢
        have t0 := fb.vr
        have t1 := fb.fam
        have t2 := fb.vq
        have t3 := fb.ts
        have t4 := fb.seq
        have t5 := fb.kind
        have t6 := fb.vv
        simp only at t0 t1 t2 t3 t4 t5 t6
        (try simp only [Exit.inBlock, Exit.then])
        refine bodyPost_ret (v := .tuple #[.agg #[.slice none 0 0, .int .i64 0, .slice none 0 0, .int .i64 0, .int .i64 0, .int .i64 0, .slice none 0 0], .int .i64 27]) ?hres rfl ?_
        case hres => simp [results, Tryz.results104, go_sem, t0, t1, t2, t3, t4, t5, t6]
        exact ⟨fun _ => rfl, fun h => absurd h (fun h => hz (HCC.out.trans h.2.2)), bw⟩
    · have hp1 : ((p : Int) != (m : Int)) = true := by simp; omega
      have hp2 : ¬ ((p : Int) = (m : Int)) := by omega
      have fa := filled_apart (w2.alloc (.cells #[.slice a1 row.length c1, .int .i64 (fam : Int), .slice a6 qual.length c6, .int .i64 (ts : Int), .int .i64 (sq : Int), .int .i64 (kd : Int), .slice none 0 0] 40)) w.heap.size ⟨.slice none 0 0, 0, .slice none 0 0, 0, 0, 0, .slice none 0 0, [], [], []⟩
      have fb := filled_box (HE3.out) ⟨.slice none 0 0, 0, .slice none 0 0, 0, 0, 0, .slice none 0 0, [], [], []⟩
      have bw : Below w.heap.size w (filled (w2.alloc (.cells #[.slice a1 row.length c1, .int .i64 (fam : Int), .slice a6 qual.length c6, .int .i64 (ts : Int), .int .i64 (sq : Int), .int .i64 (kd : Int), .slice none 0 0] 40)) w.heap.size ⟨.slice none 0 0, 0, .slice none 0 0, 0, 0, 0, .slice none 0 0, [], [], []⟩) := (HBW.out).trans (fa.below (Nat.le_refl _) (HBW.out).size)
      have HDN : Hid (_ ∧ _) := ⟨fb, bw⟩
      clear fa fb bw
      simp only [filled] at HDN
      go_wp2
      obtain ⟨fb, bw⟩ := HDN.out
      clear HDN
      generalize ((((((((w2.alloc (.cells #[.slice a1 row.length c1, .int .i64 (fam : Int), .slice a6 qual.length c6, .int .i64 (ts : Int), .int .i64 (sq : Int), .int .i64 (kd : Int), .slice none 0 0] 40)).setCell ⟨w.heap.size, 0, none⟩ (.slice none 0 0)).setCell ⟨w.heap.size, 1, none⟩ (.int .i64 0)).setCell ⟨w.heap.size, 2, none⟩ (.slice none 0 0)).setCell ⟨w.heap.size, 3, none⟩ (.int .i64 0)).setCell ⟨w.heap.size, 4, none⟩ (.int .i64 0)).setCell ⟨w.heap.size, 5, none⟩ (.int .i64 0)).setCell ⟨w.heap.size, 6, none⟩ (.slice none 0 0)) = wz at fb bw ⊢
      have t0 := fb.vr
      have t1 := fb.fam
      have t2 := fb.vq
      have t3 := fb.ts
      have t4 := fb.seq
      have t5 := fb.kind
      have t6 := fb.vv
      simp only at t0 t1 t2 t3 t4 t5 t6
      (try simp only [Exit.inBlock, Exit.then])
      refine bodyPost_ret (v := .tuple #[.agg #[.slice none 0 0, .int .i64 0, .slice none 0 0, .int .i64 0, .int .i64 0, .int .i64 0, .slice none 0 0], .int .i64 27]) ?hres rfl ?_
      case hres => simp [results, Tryz.results104, go_sem, t0, t1, t2, t3, t4, t5, t6]
      exact ⟨fun _ => rfl, fun h => absurd h (fun h => hp h.2.1), bw⟩
end Go.Proofs.YtchebhafabhabaaGreatDoor

namespace Go.Proofs.YtchebhafabhabaaGreatDoor
open Go.RowKit
set_option linter.unusedVariables false

set_option maxRecDepth 100000 in
theorem refOutside_any {a : Option Addr} {n cap : Nat} (i : Int) {w : World} (_hn : n ≤ 281474976710656) :
    Calls Tryz.prog 111 #[.slice a n cap, .int .i64 i] w fun e w' => e = .returned (.bool (decide (i < 0 ∨ (n : Int) < i))) ∧ w' = w := by
  by_cases h1 : i < 0
  · have hd : decide (i < 0) = true := by simpa using h1
    have h2 : decide (i < 0 ∨ (n : Int) < i) = true := by simp [h1]
    go_enter Tryz.func111, Tryz.ntmps111
    go_wp2
    go_ret
    exact ⟨by first | rfl | (rw [h2]; rfl), rfl⟩
  · have hd : decide (i < 0) = false := by simpa using h1
    go_enter Tryz.func111, Tryz.ntmps111
    go_wp2
    go_ret
    exact ⟨rfl, rfl⟩

set_option maxRecDepth 100000 in
set_option maxHeartbeats 1000000 in
theorem refOrdered_any {v : Value} {bs : List Nat} {w : World} (hr : Rd w v bs) (hl : (ordL bs).length ≤ 140737488355328) :
    Calls Tryz.prog 105 #[v] w fun e w' => ∃ a m c, e = .returned (.slice a m c) ∧ Own w' w.heap.size (.slice a m c) m (ordL bs) ∧ Below w.heap.size w w' := by
  obtain ⟨a, n, cap, rfl⟩ := rd_slice hr
  obtain ⟨hn, hle, hm, hl48⟩ := rd_lens hr
  have HN : Hid (n = bs.length) := hn
  have hol := ordL_len bs
  rw [← hn] at hol
  obtain ⟨C, hC⟩ : ∃ C, C = bs.count 0 := ⟨_, rfl⟩
  rw [← hC] at hol
  have hsum : n + C + 2 ≤ 140737488355328 := by omega
  have HOL : Hid ((ordL bs).length = n + C + 2) := hol
  clear hn hC hm hol hl
  go_enter Tryz.func105, Tryz.ntmps105
  go_wp2
  go_loopw [3, 4] (fun s i wr => ∃ t a m c, t ≤ n ∧ i = .int .i64 ((t : Nat) : Int) ∧ s = .slice a m c ∧ Own wr w.heap.size (.slice a m c) m (escL (bs.take t)) ∧ Below w.heap.size w wr) (fun _ i _ => n - (intOf i).toNat)
  case atStart => exact ⟨0, _, _, _, Nat.zero_le _, rfl, rfl, ⟨rfl, World.ownsRow_nil _ _ _ _⟩, Below.refl _ _⟩
  case round =>
    obtain ⟨t, a1, m1, c1, htl, rfl, rfl, own1, hb1⟩ := hrel
    have hs1 := hb1.size
    have hme := escL_le bs t
    have hm1 : m1 ≤ n + C := by
      rw [own1.1]
      have := HOL.out
      unfold ordL at this
      rw [List.length_append] at this
      simp at this
      omega
    clear hme
    by_cases hlt : t < n
    · have hlt2 : (t : Int) < (n : Int) := by omega
      rcases rd_some hr with ⟨_, h0, _⟩ | ⟨b, off, rfl⟩
      · omega
      obtain ⟨hcell0, hcl⟩ := rd_cell hr t hlt
      have hcell : wr.cell? ⟨b, off + t, none⟩ = some (.int .u8 ((bs.getD t 0 : Nat) : Int)) := by
        rw [hb1.cell (p := ⟨b, off + t, none⟩) (World.block_lt_of_cell? w _ hcell0)]; exact hcell0
      have htk := take_succ_getD bs t (by rw [← HN.out]; exact hlt)
      obtain ⟨c, hcd⟩ : ∃ c, c = bs.getD t 0 := ⟨_, rfl⟩
      rw [← hcd] at hcell hcl htk
      have hbc := World.block_lt_of_cell? wr _ hcell
      have HTK : Hid (bs.take (t + 1) = bs.take t ++ [c]) := htk
      clear hcd htk
      by_cases hc0 : c = 0
      · subst hc0
        have HE : Hid (escL (bs.take (t + 1)) = (escL (bs.take t) ++ [0]) ++ [255]) := by
          unfold Hid; rw [HTK.out, escL_append]; simp [escL]
        go_wp2_with (first
          | (at_builtin; refine wpList_append_new rfl (.tmp 11) _ rfl w.heap.size a1 m1 c1 _ rfl own1 [_] 1 rfl [0] rfl rfl (by omega) hs1 ?_; intro a3 m3 c3 w3 own3 hb3; have hcell3 : w3.cell? ⟨b, off + t, none⟩ = some (.int .u8 ((0 : Nat) : Int)) := by (rw [(hb1.trans hb3).cell (p := ⟨b, off + t, none⟩) (World.block_lt_of_cell? w _ hcell0), ← hb1.cell (p := ⟨b, off + t, none⟩) (World.block_lt_of_cell? w _ hcell0)]; exact hcell))
          | (at_builtin; refine wpList_append_new rfl (.tmp 23) _ rfl w.heap.size a3 m3 c3 _ rfl own3 [_] 1 rfl [255] rfl rfl (own_room own3 hm1 hsum own1.1) (hb1.trans hb3).size ?_; intro a4 m4 c4 w4 own4 hb4))
        go_roundw
        case rel => exact ⟨t + 1, a4, m4, c4, by omega, by go_num, rfl, by rw [HE.out]; exact own4, (hb1.trans hb3).trans hb4⟩
        case measure => simp [intOf]; omega
      · have HE : Hid (escL (bs.take (t + 1)) = escL (bs.take t) ++ [c]) := by
          unfold Hid; rw [HTK.out, escL_append]; simp [escL, hc0]
        have hcb : ((c : Int) == 0) = false := by simp; omega
        clear hc0
        go_wp2_with (at_builtin; refine wpList_append_new rfl (.tmp 11) _ rfl w.heap.size a1 m1 c1 _ rfl own1 [_] 1 rfl [c] rfl rfl (by omega) hs1 ?_; intro a3 m3 c3 w3 own3 hb3; have hcell3 : w3.cell? ⟨b, off + t, none⟩ = some (.int .u8 ((c : Nat) : Int)) := by (rw [(hb1.trans hb3).cell (p := ⟨b, off + t, none⟩) (World.block_lt_of_cell? w _ hcell0), ← hb1.cell (p := ⟨b, off + t, none⟩) (World.block_lt_of_cell? w _ hcell0)]; exact hcell))
        go_roundw
        case rel => exact ⟨t + 1, a3, m3, c3, by omega, by go_num, rfl, by rw [HE.out]; exact own3, hb1.trans hb3⟩
        case measure => simp [intOf]; omega
    · have hge : (n : Int) ≤ (t : Int) := by omega
      have HE : Hid (escL (bs.take t) = escL bs) := by unfold Hid; rw [List.take_of_length_le (by rw [← HN.out]; omega)]
      go_wp2_with (at_builtin; refine wpList_append_new rfl (.tmp 26) _ rfl w.heap.size a1 m1 c1 _ rfl own1 [_, _] 2 rfl [0, 1] rfl rfl (by omega) hs1 ?_; intro a3 m3 c3 w3 own3 hb3)
      go_ret
      refine ⟨a3, m3, c3, rfl, ?_, hb1.trans hb3⟩
      unfold ordL
      rw [← HE.out]
      exact own3

theorem rord_step (c : Nat) (r acc : List Nat) (i : Nat) (hc : c ≠ 0) : rord (c :: r) acc i = rord r (acc ++ [c]) (i + 1) := by
  cases r with
  | nil => rfl
  | cons d r => rw [rord, if_pos hc]
theorem rord_nil (acc : List Nat) (i : Nat) : rord [] acc i = ([], 0, 10) := by rw [rord]
theorem rord_zero (d : Nat) (r acc : List Nat) (i : Nat) : rord (0 :: d :: r) acc i = if d = 1 then (acc, i + 2, 0) else if d = 255 then rord r (acc ++ [0]) (i + 2) else ([], 0, 11) := by
  conv => lhs; rw [rord]
  exact if_neg (by simp)

set_option maxRecDepth 100000 in
set_option maxHeartbeats 2000000 in
theorem refReadOrdered_in {v : Value} {bs : List Nat} {w : World} (hr : Rd w v bs) (k : Nat) (hk : k ≤ bs.length) (h47 : bs.length ≤ 140737488355328) :
    Calls Tryz.prog 113 #[v, .int .i64 (k : Int)] w fun e w' => ∃ a m c, e = .returned (.tuple #[.slice a m c, .int .i64 (((ordR bs k).2.1 : Nat) : Int), .int .i64 (((ordR bs k).2.2 : Nat) : Int)]) ∧ Own w' w.heap.size (.slice a m c) m (ordR bs k).1 ∧ Below w.heap.size w w' := by
  obtain ⟨a, n, cap, rfl⟩ := rd_slice hr
  obtain ⟨hn, hle, hm, hl48⟩ := rd_lens hr
  rw [← hn] at hk h47
  have HN : Hid (n = bs.length) := hn
  clear hn
  unfold maxLen at hm
  have hd : decide ((k : Int) < 0 ∨ (n : Int) < (k : Int)) = false := by simp; omega
  obtain ⟨R, hR⟩ : ∃ R, R = ordR bs k := ⟨_, rfl⟩
  rw [← hR]
  have HR : Hid (R = ordR bs k) := hR
  clear hR
  go_enter Tryz.func113, Tryz.ntmps113
  go_wp2_with fail
  refine (refOutside_any _ hl48).mono ?_
  rintro e w1 ⟨rfl, rfl⟩
  rw [hd]
  go_wp2
  go_loopw [7, 8] (fun s x wr => ∃ p a m c acc, k ≤ p ∧ p ≤ n ∧ x = .int .i64 ((p : Nat) : Int) ∧ s = .slice a m c ∧ Own wr w1.heap.size (.slice a m c) m acc ∧ m ≤ p ∧ rord (bs.drop k) [] 0 = rord (bs.drop p) acc (p - k) ∧ Below w1.heap.size w1 wr) (fun _ x _ => n - (intOf x).toNat)
  case atStart => exact ⟨k, _, _, _, [], Nat.le_refl _, hk, rfl, rfl, ⟨rfl, World.ownsRow_nil _ _ _ _⟩, Nat.zero_le _, by simp, Below.refl _ _⟩
  case round =>
    obtain ⟨p, a1, m1, c1, acc, hkp, hpn, rfl, rfl, own1, hmp, hro, hb1⟩ := hrel
    have HO : Hid (rord (bs.drop k) [] 0 = rord (bs.drop p) acc (p - k)) := hro
    clear hro
    have hs1 := hb1.size
    by_cases hlt : p < n
    · have hlt2 : (p : Int) < (n : Int) := by omega
      rcases rd_some hr with ⟨_, h0, _⟩ | ⟨b, off, rfl⟩
      · omega
      obtain ⟨hcell0, hcl⟩ := rd_cell hr p hlt
      have hcell : wr.cell? ⟨b, off + p, none⟩ = some (.int .u8 ((bs.getD p 0 : Nat) : Int)) := by
        rw [hb1.cell (p := ⟨b, off + p, none⟩) (World.block_lt_of_cell? w1 _ hcell0)]; exact hcell0
      have hdr := drop_cons' bs p (by rw [← HN.out]; exact hlt)
      obtain ⟨c, hcd⟩ : ∃ c, c = bs.getD p 0 := ⟨_, rfl⟩
      rw [← hcd] at hcell hcl hdr
      have HDR : Hid (bs.drop p = c :: bs.drop (p + 1)) := hdr
      clear hcd hdr hcell0
      by_cases hc0 : c = 0
      · subst hc0
        by_cases hend : p + 1 = n
        · have he : ((p : Int) + 1 == (n : Int)) = true := by simp; omega
          have HRR : Hid (R = ([], 0, 10)) := by
            unfold Hid
            rw [HR.out]
            unfold ordR
            rw [HO.out, HDR.out, List.drop_eq_nil_of_le (by rw [← HN.out]; omega)]
            rfl
          clear hend
          go_wp2
          go_ret3
          rw [HRR.out]
          exact ⟨_, _, _, rfl, ⟨rfl, World.ownsRow_nil _ _ _ _⟩, hb1⟩
        · have he : ((p : Int) + 1 == (n : Int)) = false := by simp; omega
          have hlt3 : (p : Int) + 1 < (n : Int) := by omega
          have hlt4 : p + 1 < n := by omega
          obtain ⟨hcd0, hdl⟩ := rd_cell hr (p + 1) hlt4
          have hcellD : wr.cell? ⟨b, off + (p + 1), none⟩ = some (.int .u8 ((bs.getD (p + 1) 0 : Nat) : Int)) := by
            rw [hb1.cell (p := ⟨b, off + (p + 1), none⟩) (World.block_lt_of_cell? w1 _ hcd0)]; exact hcd0
          have hdr2 := drop_cons' bs (p + 1) (by rw [← HN.out]; exact hlt4)
          obtain ⟨d, hdd⟩ : ∃ d, d = bs.getD (p + 1) 0 := ⟨_, rfl⟩
          rw [← hdd] at hcellD hdl hdr2
          have HD : Hid (bs.drop p = 0 :: d :: bs.drop (p + 2)) := by unfold Hid; rw [HDR.out, hdr2]
          clear hdd hdr2 hcd0 hend
          by_cases hd1 : d = 1
          · subst hd1
            have HRR : Hid (R = (acc, p + 2, 0)) := by
              unfold Hid
              rw [HR.out]
              unfold ordR
              rw [HO.out, HD.out, rord_zero, if_pos rfl]
              simp; omega
            go_wp2
            go_ret3
            rw [HRR.out]
            exact ⟨a1, m1, c1, by go_num, own1, hb1⟩
          · have hdb : ((d : Int) == 1) = false := by simp; omega
            by_cases hd2 : d = 255
            · subst hd2
              have HO2 : Hid (rord (bs.drop k) [] 0 = rord (bs.drop (p + 2)) (acc ++ [0]) (p + 2 - k)) := by
                unfold Hid
                rw [HO.out, HD.out, rord_zero, if_neg (by omega), if_pos rfl, show p - k + 2 = p + 2 - k by omega]
              go_wp2_with (at_builtin; refine wpList_append_new rfl (.tmp 50) _ rfl w1.heap.size a1 m1 c1 _ rfl own1 [_] 1 rfl [0] rfl rfl (by omega) hs1 ?_; intro a3 m3 c3 w3 own3 hb3)
              go_roundw
              case rel => exact ⟨p + 2, a3, m3, c3, acc ++ [0], by omega, by omega, by go_num, rfl, own3, by rw [own3.1, List.length_append, ← own1.1]; simp; omega, HO2.out, hb1.trans hb3⟩
              case measure => simp [intOf]; omega
            · have hdc : ((d : Int) == 255) = false := by simp; omega
              have hde : ¬ ((d : Int) = 255) := by omega
              have HRR : Hid (R = ([], 0, 11)) := by
                unfold Hid
                rw [HR.out]
                unfold ordR
                rw [HO.out, HD.out, rord_zero, if_neg hd1, if_neg hd2]
                rfl
              go_wp2
              go_ret3
              rw [HRR.out]
              exact ⟨_, _, _, rfl, ⟨rfl, World.ownsRow_nil _ _ _ _⟩, hb1⟩
      · have HO2 : Hid (rord (bs.drop k) [] 0 = rord (bs.drop (p + 1)) (acc ++ [c]) (p + 1 - k)) := by
          unfold Hid
          rw [HO.out, HDR.out, rord_step _ _ _ _ hc0, show p - k + 1 = p + 1 - k by omega]
        have hcb : ((c : Int) == 0) = false := by simp; omega
        have hcc : ¬ ((c : Int) = 0) := by omega
        clear hc0
        go_wp2_with (at_builtin; refine wpList_append_new rfl (.tmp 24) _ rfl w1.heap.size a1 m1 c1 _ rfl own1 [_] 1 rfl [c] rfl rfl (by omega) hs1 ?_; intro a3 m3 c3 w3 own3 hb3)
        go_roundw
        case rel => exact ⟨p + 1, a3, m3, c3, acc ++ [c], by omega, by omega, by go_num, rfl, own3, by rw [own3.1, List.length_append, ← own1.1]; simp; omega, HO2.out, hb1.trans hb3⟩
        case measure => simp [intOf]; omega
    · have hge : (n : Int) ≤ (p : Int) := by omega
      have HRR : Hid (R = ([], 0, 10)) := by
        unfold Hid
        rw [HR.out]
        unfold ordR
        rw [HO.out, List.drop_eq_nil_of_le (by rw [← HN.out]; omega), rord_nil]
        rfl
      go_wp2
      go_ret3
      rw [HRR.out]
      exact ⟨_, _, _, rfl, ⟨rfl, World.ownsRow_nil _ _ _ _⟩, hb1⟩

end Go.Proofs.YtchebhafabhabaaGreatDoor

namespace Go.Proofs.YtchebhafabhabaaGreatDoor
open Go.RowKit
set_option linter.unusedVariables false

set_option maxRecDepth 100000 in
set_option maxHeartbeats 1000000 in
theorem refUint_any (v : Nat) (hv : v < 18446744073709551616) (w : World) :
    Calls Tryz.prog 59 #[.int .u64 (v : Int)] w fun e w' => ∃ a m c, e = .returned (.slice a m c) ∧ Own w' w.heap.size (.slice a m c) m (uintL v) ∧ Below w.heap.size w w' := by
  go_enter Tryz.func59, Tryz.ntmps59
  go_wp2
  go_loopw [0, 3] (fun x s wr => ∃ (u f : Nat) (acc : List Nat) (a : Option Addr) (m c : Nat), x = .int .u64 (u : Int) ∧ u < 128 ^ (f + 1) ∧ u < 18446744073709551616 ∧ acc.length + f = 9 ∧ uintL v = acc ++ uintF f u ∧ s = .slice a m c ∧ Own wr w.heap.size (.slice a m c) m acc ∧ m ≤ 9 ∧ Below w.heap.size w wr)
    (fun x _ _ => (intOf x).toNat)
  case atStart => exact ⟨v, 9, [], _, _, _, rfl, by omega, hv, rfl, rfl, rfl, ⟨rfl, World.ownsRow_nil _ _ _ _⟩, by omega, Below.refl _ _⟩
  case round =>
    obtain ⟨u, f, acc, a1, m1, c1, rfl, hu, hu2, hacc, hl, rfl, own1, hm9, hb⟩ := hrel
    have HL : Hid (uintL v = acc ++ uintF f u) := hl
    have HU : Hid (u < 128 ^ (f + 1)) := hu
    have HA : Hid (acc.length + f = 9) := hacc
    clear hl hu hacc
    have hbs := hb.size
    by_cases hgt : 127 < u
    · have hgt2 : (127 : Int) < (u : Int) := by omega
      obtain ⟨f', hf'⟩ : ∃ f', f = f' + 1 := ⟨f - 1, by
        have h1 : f ≠ 0 := by
          intro h0
          have := HU.out
          rw [h0] at this
          omega
        omega⟩
      have HF : Hid (f = f' + 1) := hf'
      clear hf'
      go_wp2_with (at_builtin; refine wpList_append_new rfl (.tmp 6) _ rfl w.heap.size a1 m1 c1 _ rfl own1 [_] 1 rfl [u % 128 + 128] (by first | rfl | (simp [bv]; done) | (simp [bv]; omega)) rfl (by omega) hbs ?_; intro a3 m3 c3 w3 own3 hb3)
      go_roundw
      case rel =>
        refine ⟨u / 128, f', acc ++ [u % 128 + 128], a3, m3, c3, by go_num, ?_, by omega, by have := HA.out; have := HF.out; simp; omega, ?_, rfl, own3, by have := HA.out; have := HF.out; rw [own3.1]; simp; omega, hb.trans hb3⟩
        · have := HU.out
          rw [HF.out, Nat.pow_succ] at this
          exact Nat.div_lt_of_lt_mul (by rw [Nat.mul_comm]; exact this)
        · rw [HL.out, HF.out, uintF_go f' u hgt]; simp
      case measure => simp [intOf]; omega
    · have hgt2 : (u : Int) ≤ 127 := by omega
      go_wp2_with (at_builtin; refine wpList_append_new rfl (.tmp 15) _ rfl w.heap.size a1 m1 c1 _ rfl own1 [_] 1 rfl [u] (by first | rfl | (simp [bv]; done) | (simp [bv]; omega)) rfl (by omega) hbs ?_; intro a3 m3 c3 w3 own3 hb3)
      go_ret
      refine ⟨a3, m3, c3, rfl, ?_, hb.trans hb3⟩
      rw [HL.out, uintF_stop f u (by omega)]
      exact own3

set_option maxRecDepth 100000 in
set_option maxHeartbeats 1000000 in
theorem refBytes_any {v : Value} {bs : List Nat} {w : World} (hr : Rd w v bs) (hl : bs.length ≤ 140737488355312) :
    Calls Tryz.prog 60 #[v] w fun e w' => ∃ a m c, e = .returned (.slice a m c) ∧ Own w' w.heap.size (.slice a m c) m (bytesL bs) ∧ Below w.heap.size w w' := by
  obtain ⟨a, n, cap, rfl⟩ := rd_slice hr
  obtain ⟨hn, hle, hm, hl48⟩ := rd_lens hr
  rw [← hn] at hl
  have HN : Hid (n = bs.length) := hn
  clear hn
  have hn64 : n < 18446744073709551616 := by omega
  have hem : (n : Int) % 18446744073709551616 = (n : Int) := by omega
  have HU : ∀ m : Nat, m = (uintL n).length → m ≤ 10 := fun m h => by have := (uintL_len n).2; omega
  go_enter Tryz.func60, Tryz.ntmps60
  go_wp2_with fail
  refine (refUint_any n hn64 _).mono ?_
  rintro e w1 ⟨a1, m1, c1, rfl, own1, hb1⟩
  go_wp2_with (at_builtin; refine wpList_append_at rfl _ _ rfl w.heap.size a1 m1 c1 _ rfl own1 a n cap bs rfl (hr.later hb1) (by have := HU m1 own1.1; omega) hb1.size ?_; intro a5 m5 c5 w5 own5 hb5)
  go_ret
  refine ⟨a5, m5, c5, rfl, ?_, hb1.trans hb5⟩
  unfold bytesL
  rw [← HN.out]
  exact own5

set_option maxRecDepth 100000 in
set_option maxHeartbeats 1000000 in
theorem refPart_any {b off n cap : Nat} {bs : List Nat} {w : World} (hr : Rd w (.slice (some ⟨b, off, none⟩) n cap) bs) (i j : Nat) (hij : i ≤ j) (hj : j ≤ n) (h47 : n ≤ 140737488355328) :
    Calls Tryz.prog 112 #[.slice (some ⟨b, off, none⟩) n cap, .int .i64 (i : Int), .int .i64 (j : Int)] w fun e w' => ∃ a m c, e = .returned (.slice a m c) ∧ Own w' w.heap.size (.slice a m c) m ((bs.take j).drop i) ∧ Below w.heap.size w w' := by
  obtain ⟨hn, hle, hm, hl48⟩ := rd_lens hr
  have hi0 : (0 : Int) ≤ (i : Int) := by omega
  have hij2 : (i : Int) ≤ (j : Int) := by omega
  have hjc : (j : Int) ≤ (cap : Int) := by omega
  by_cases hc : cap = i
  · have hji : j = i := by omega
    subst hji
    have HE : Hid ((bs.take j).drop j = []) := by unfold Hid; simp
    subst hc
    clear hn
    go_enter Tryz.func112, Tryz.ntmps112
    go_wp2_with (at_builtin; refine wpList_append_at rfl _ _ rfl w.heap.size none 0 0 [] rfl ⟨rfl, World.ownsRow_nil _ _ _ _⟩ _ _ _ [] rfl (by first | exact Rd.zero _ _ | (simp; exact Rd.zero _ _)) (by omega) (Nat.le_refl _) ?_; intro a5 m5 c5 w5 own5 hb5)
    go_ret
    exact ⟨a5, m5, c5, rfl, by rw [HE.out]; simpa using own5, hb5⟩
  · have rp := hr.sub i j hij hj (off' := off + i) (n' := j - i) (cap' := cap - i) rfl rfl rfl
    clear hn
    go_enter Tryz.func112, Tryz.ntmps112
    go_wp2_with (at_builtin; refine wpList_append_at rfl _ _ rfl w.heap.size none 0 0 [] rfl ⟨rfl, World.ownsRow_nil _ _ _ _⟩ _ _ _ _ rfl rp (by omega) (Nat.le_refl _) ?_; intro a5 m5 c5 w5 own5 hb5)
    go_ret
    exact ⟨a5, m5, c5, rfl, by simpa using own5, hb5⟩

theorem pow_le9 (i : Nat) (hi : i ≤ 9) : 128 ^ i ≤ 9223372036854775808 := Nat.le_trans (Nat.pow_le_pow_right (by omega) hi) (by decide)
theorem sum_lt (q c i : Nat) (hi : i ≤ 9) (hq : q < 128 ^ i) (h9 : i = 9 → c ≤ 1) : q + c % 128 * 128 ^ i < 18446744073709551616 := by
  by_cases h : i = 9
  · subst h
    have := h9 rfl
    have e : (128 : Nat) ^ 9 = 9223372036854775808 := by decide
    rw [e] at hq ⊢
    have : c % 128 ≤ 1 := by omega
    omega
  · have h1 := next_lt q c i hq
    have h2 := pow_le9 (i + 1) (by omega)
    omega
theorem wrapV (q c i U : Nat) (hi : i ≤ 9) (hU : U = 128 ^ i) (hq : q < 128 ^ i) (h9 : i = 9 → c ≤ 1) : IntKind.u64.wrap ((q : Int) + IntKind.u64.wrap ((U : Int) * ((c : Int) % 128))) = ((q + c % 128 * 128 ^ i : Nat) : Int) := by
  have e1 : (U : Int) * ((c : Int) % 128) = ((c % 128 * 128 ^ i : Nat) : Int) := by
    rw [hU, Int.natCast_mul, Int.mul_comm]; simp
  have h1 := shl_lt c i hi h9
  have h2 := sum_lt q c i hi hq h9
  rw [e1, IntKind.wrap_u64, IntKind.wrap_u64]
  omega
theorem wrapU (i U : Nat) (hi : i ≤ 8) (hU : U = 128 ^ i) : IntKind.u64.wrap ((U : Int) * 128) = ((128 ^ (i + 1) : Nat) : Int) := by
  have h := pow_le9 (i + 1) (by omega)
  have e : (U : Int) * 128 = ((128 ^ (i + 1) : Nat) : Int) := by rw [hU, Nat.pow_succ, Int.natCast_mul]; simp
  rw [e, IntKind.wrap_u64]
  omega
set_option maxHeartbeats 2000000 in
set_option maxRecDepth 100000 in
theorem refReadUint_in {v : Value} {bs : List Nat} {w : World} (hr : Rd w v bs) (k : Nat) (hk : k ≤ bs.length) :
    Calls Tryz.prog 97 #[v, .int .i64 (k : Int)] w fun e w' => e = .returned (.tuple #[.int .u64 (((uintR bs k).1 : Nat) : Int), .int .i64 (((uintR bs k).2.1 : Nat) : Int), .int .i64 (((uintR bs k).2.2 : Nat) : Int)]) ∧ w' = w := by
  obtain ⟨a, n, cap, rfl⟩ := rd_slice hr
  obtain ⟨hn, hle, hm, hl48⟩ := rd_lens hr
  rw [← hn] at hk
  have HN : Hid (n = bs.length) := hn
  clear hn
  unfold maxLen at hm
  have hk2 : (k : Int) ≤ (n : Int) := by omega
  have hk0 : (0 : Int) ≤ (k : Int) := by omega
  have hd : decide ((k : Int) < 0 ∨ (n : Int) < (k : Int)) = false := by simp; omega
  go_enter Tryz.func97, Tryz.ntmps97
  go_wp2_with fail
  refine (refOutside_any _ hl48).mono ?_
  rintro e w1 ⟨rfl, rfl⟩
  rw [hd]
  go_wp2
  go_loop [7, 8, 9, 10] (fun x u y g => ∃ i q U : Nat, i ≤ 9 ∧ k + i ≤ n ∧ x = .int .u64 (q : Int) ∧ u = .int .u64 (U : Int) ∧ U = 128 ^ i ∧ y = .int .i64 (i : Int) ∧ q < 128 ^ i ∧ ruint 9 (bs.drop k) 0 0 = ruint (9 - i) (bs.drop (k + i)) i q) (fun _ _ y _ => 10 - (intOf y).toNat)
  case atStart => exact ⟨0, 0, 1, by omega, by omega, rfl, rfl, rfl, rfl, by simp, rfl⟩
  case round =>
    obtain ⟨i, q, U, hi, hki, rfl, rfl, hU, rfl, hq, hru⟩ := hrel
    have HQ : Hid (q < 128 ^ i) := hq
    have HP : Hid (U = 128 ^ i) := hU
    have HR : Hid (ruint 9 (bs.drop k) 0 0 = ruint (9 - i) (bs.drop (k + i)) i q) := hru
    clear hq hru hU
    have hi10 : (i : Int) < 10 := by omega
    by_cases hend : k + i = n
    · have hge : (n : Int) ≤ (k : Int) + (i : Int) := by omega
      have hdr : bs.drop (k + i) = [] := by rw [hend, HN.out]; simp
      have HU : Hid (uintR bs k = (0, 0, 10)) := by
        unfold Hid uintR; rw [HR.out, hdr]; cases (9 - i) <;> rfl
      clear hend hdr
      go_wp2
      go_ret3
      rw [HU.out]
      exact ⟨rfl, rfl⟩
    · have hkn : (k : Int) + (i : Int) < (n : Int) := by omega
      rcases rd_some hr with ⟨_, h0, _⟩ | ⟨b, off, rfl⟩
      · omega
      obtain ⟨hc, hcl⟩ := rd_cell hr (k + i) (by omega)
      have hdr : bs.drop (k + i) = bs.getD (k + i) 0 :: bs.drop (k + i + 1) := by
        rw [List.drop_eq_getElem_cons (by rw [← HN.out]; omega)]
        simp [List.getD, List.getElem?_eq_getElem (show k + i < bs.length by rw [← HN.out]; omega)]
      obtain ⟨c, hcd⟩ : ∃ c, c = bs.getD (k + i) 0 := ⟨_, rfl⟩
      rw [← hcd] at hc hcl hdr
      have HD : Hid (bs.drop (k + i) = c :: bs.drop (k + i + 1)) := hdr
      clear hdr hcd
      by_cases hA : i = 9 ∧ 1 < c
      · have HU : Hid (uintR bs k = (0, 0, 13)) := by
          unfold Hid uintR; rw [HR.out, HD.out, hA.1]
          simp [ruint, hA.2]
        have e2 : ((i : Int) == 9) = true := by simp; omega
        have e3 : (1 : Int) < (c : Int) := by omega
        clear hA
        go_wp2
        go_ret3
        rw [HU.out]
        exact ⟨rfl, rfl⟩
      · have hA9 : i = 9 → c ≤ 1 := fun h => by
          by_cases hc1 : 1 < c
          · exact absurd ⟨h, hc1⟩ hA
          · omega
        by_cases hB : 128 ≤ c
        · have hi8 : i ≤ 8 := by
            by_cases h : i = 9
            · have := hA9 h; omega
            · omega
          have e2 : ((i : Int) == 9) = false := by simp; omega
          have e4 : (128 : Int) ≤ (c : Int) := by omega
          have hnx := next_lt q c i HQ.out
          have HV := wrapV q c i U (by omega) HP.out HQ.out hA9
          have HW := wrapU i U hi8 HP.out
          obtain ⟨V, hV⟩ : ∃ V, V = q + c % 128 * 128 ^ i := ⟨_, rfl⟩
          rw [← hV] at HV hnx
          have HV2 : Hid (V = q + c % 128 * 128 ^ i) := hV
          have HX : Hid (V < 128 ^ (i + 1)) := hnx
          have HN2 : Hid (ruint 9 (bs.drop k) 0 0 = ruint (9 - (i + 1)) (bs.drop (k + (i + 1))) (i + 1) V) := by
            unfold Hid
            rw [HR.out, HD.out, show 9 - i = (9 - (i + 1)) + 1 by omega]
            conv => lhs; unfold ruint
            rw [if_neg hA, if_pos hB, ← HV2.out]
            rfl
          have HVH : Hid (IntKind.u64.wrap ((q : Int) + IntKind.u64.wrap ((U : Int) * ((c : Int) % 128))) = ((V : Nat) : Int)) := HV
          have HWH : Hid (IntKind.u64.wrap ((U : Int) * 128) = ((128 ^ (i + 1) : Nat) : Int)) := HW
          clear hA hA9 hV hnx HV HW
          go_wp2
          go_round
          case rel => exact ⟨i + 1, V, 128 ^ (i + 1), by omega, by omega, by rw [HVH.out], by rw [HWH.out], rfl, by go_num, HX.out, HN2.out⟩
          case measure => simp [intOf]; omega
        · have e4 : (c : Int) < 128 := by omega
          have HV := wrapV q c i U hi HP.out HQ.out hA9
          obtain ⟨V, hV⟩ : ∃ V, V = q + c % 128 * 128 ^ i := ⟨_, rfl⟩
          rw [← hV] at HV
          have HV2 : Hid (V = q + c % 128 * 128 ^ i) := hV
          have HVH : Hid (IntKind.u64.wrap ((q : Int) + IntKind.u64.wrap ((U : Int) * ((c : Int) % 128))) = ((V : Nat) : Int)) := HV
          clear hV HV
          have H9 : Hid (i = 9 → c ≤ 1) := hA9
          by_cases hC : c = 0 ∧ 0 < i
          · have HU : Hid (uintR bs k = (0, 0, 11)) := by
              unfold Hid uintR
              have : ruint (9 - i) (c :: bs.drop (k + i + 1)) i q = (0, 0, 11) := by
                cases h9 : 9 - i with
                | zero => unfold ruint; rw [if_neg hA, if_neg hB, if_pos hC]
                | succ f => unfold ruint; rw [if_neg hA, if_neg hB, if_pos hC]
              rw [HR.out, HD.out, this]
              rfl
            have e5 : ((c : Int) == 0) = true := by simp; omega
            have e6 : (0 : Int) < (i : Int) := by omega
            have e7 : (c : Int) ≤ 1 := by omega
            clear hA hA9 hC
            go_wp2
            all_goals go_ret3
            all_goals rw [HU.out]
            all_goals exact ⟨rfl, rfl⟩
          · have HU : Hid (uintR bs k = (V, k + i + 1, 0)) := by
              unfold Hid uintR
              have : ruint (9 - i) (c :: bs.drop (k + i + 1)) i q = (V, i + 1, 0) := by
                cases h9 : 9 - i with
                | zero => unfold ruint; rw [if_neg hA, if_neg hB, if_neg hC, HV2.out]
                | succ f => unfold ruint; rw [if_neg hA, if_neg hB, if_neg hC, HV2.out]
              rw [HR.out, HD.out, this]
              rfl
            have HE8 : Hid (((k : Int) + (i : Int) + 1) = ((k + i + 1 : Nat) : Int)) := by unfold Hid; omega
            clear hA
            by_cases h9 : i = 9
            · have := hA9 h9
              have e2 : ((i : Int) == 9) = true := by simp; omega
              have e7 : (c : Int) ≤ 1 := by omega
              have e5 : ((c : Int) == 0) = false := by simp; omega
              have H99 : Hid (i = 9) := h9
              clear hA9 hC h9 this
              go_wp2
              all_goals go_ret3
              all_goals rw [HU.out]
              all_goals exact ⟨tup3 (by first | rfl | exact HVH.out) HE8.out, rfl⟩
            · have e2 : ((i : Int) == 9) = false := by simp; omega
              clear hA9
              by_cases hc0 : c = 0
              · have e5 : ((c : Int) == 0) = true := by simp; omega
                have e6 : (i : Int) ≤ 0 := by omega
                have H0 : Hid (c = 0) := hc0
                clear hC hc0
                go_wp2
                all_goals go_ret3
                all_goals rw [HU.out]
                all_goals exact ⟨tup3 (by first | rfl | exact HVH.out) HE8.out, rfl⟩
              · have e5 : ((c : Int) == 0) = false := by simp; omega
                clear hC
                go_wp2
                all_goals go_ret3
                all_goals rw [HU.out]
                all_goals exact ⟨tup3 (by first | rfl | exact HVH.out) HE8.out, rfl⟩

end Go.Proofs.YtchebhafabhabaaGreatDoor

namespace Go.Proofs.YtchebhafabhabaaGreatDoor
open Go.RowKit
set_option linter.unusedVariables false

theorem heap_new (w : World) (o : Obj) : (w.alloc o).heap[w.heap.size]? = some o := by
  show (w.heap.push o)[w.heap.size]? = some o
  simp

theorem own_one (w : World) (B x : Nat) (hB : B ≤ w.heap.size) : Own (w.alloc (.cells #[.int .u8 (x : Int)] 5)) B (.slice (some ⟨w.heap.size, 0, none⟩) 1 1) 1 [x] := by
  refine ⟨rfl, rfl, .inr ⟨w.heap.size, 1, #[.int .u8 (x : Int)], rfl, hB, heap_new w _, Nat.le_refl _, by decide, rfl, rfl⟩⟩

end Go.Proofs.YtchebhafabhabaaGreatDoor
