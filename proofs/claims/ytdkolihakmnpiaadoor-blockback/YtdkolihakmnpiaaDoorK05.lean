import Derived.Test.YtdkolihakmnpiaaDoorK04
import Derived.Lib.SmallJoins
namespace Go.Proofs.YtdkolihakmnpiaaDoor
open Go.RowKit
set_option linter.unusedVariables false

def Parsed (w w' : World) (r : Ending) (row qual : List Nat) (fam ts sq kd : Nat) (good : Prop) : Prop :=
  (¬ good → r = .returned (.tuple #[.agg #[.slice none 0 0, .int .i64 0, .slice none 0 0, .int .i64 0, .int .i64 0, .int .i64 0, .slice none 0 0], .int .i64 27])) ∧
  (good → ∃ vr vq, r = .returned (.tuple #[.agg #[vr, .int .i64 (fam : Int), vq, .int .i64 (ts : Int), .int .i64 (sq : Int), .int .i64 (kd : Int), .slice none 0 0], .int .i64 0]) ∧ Own w' w.heap.size vr row.length row ∧ ∃ B, w.heap.size ≤ B ∧ Own w' B vq qual.length qual ∧ ∀ k, vr.ownBlock = some k → k < B) ∧
  Below w.heap.size w w'

set_option maxRecDepth 100000 in
set_option maxHeartbeats 8000000 in
theorem parse_read {w : World} {m c : Nat} {a : Option Addr} {bs row qual : List Nat} {fam ts sq kd p : Nat} {ok : Prop} (hr : Rd w (.slice a m c) bs) (hbr : Bys row ∧ row.length ≤ 281474976710656) (hbq : Bys qual ∧ qual.length ≤ 281474976710656)
    (hc : ∀ W g, RBox W g (.slice a m c) ((0 : Nat) : Int) false → Rd W (.slice a m c) bs → Calls Tryd.prog 77 #[.pointer (some ⟨g, 0, none⟩)] W fun e w' => Read W w' g (.slice a m c) e row qual fam ts sq kd p ok) :
    Calls Tryd.prog 64 #[.slice a m c] w fun e w' => Parsed w w' e row qual fam ts sq kd (ok ∧ p = m ∧ checkS ⟨.slice none 0 0, fam, .slice none 0 0, ts, sq, kd, .slice none 0 0, row, qual, []⟩ = 0) := by
  have A1 := (Below.refl w.heap.size w).alloc (Nat.le_refl _) (.cells (EntD.cells ⟨.slice none 0 0, 0, .slice none 0 0, 0, 0, 0, .slice none 0 0, [], [], []⟩) 37)
  have b1 := EBox.new w ⟨.slice none 0 0, 0, .slice none 0 0, 0, 0, 0, .slice none 0 0, [], [], []⟩
  obtain ⟨w1, hw1⟩ : ∃ w1, w1 = w.alloc (.cells (EntD.cells ⟨.slice none 0 0, 0, .slice none 0 0, 0, 0, 0, .slice none 0 0, [], [], []⟩) 37) := ⟨_, rfl⟩
  have e1 : w1.heap.size = w.heap.size + 1 := by rw [hw1]; show (w.heap.push _).size = _; simp
  rw [← hw1] at A1 b1
  have A2 := (Below.refl w1.heap.size w1).alloc (Nat.le_refl _) (.cells (rcells (.slice a m c) ((0 : Nat) : Int) false) 108)
  have b2 := RBox.new w1 (.slice a m c) ((0 : Nat) : Int) false
  have A3 := A1.trans (A2.mono A1.size)
  have c1 := hc _ _ b2 (hr.later A3)
  have b1' := b1.later A2
  rw [e1] at c1 b2
  rw [hw1] at A3 c1 b1' b2
  have HX : Hid (EBox _ w.heap.size _ ∧ Below w.heap.size w _ ∧ RBox _ _ _ _ _ ∧ Rd w (.slice a m c) bs) := ⟨b1', A3, b2, hr⟩
  have HC : Hid (Calls _ _ _ _ _) := c1
  clear c1 hc A3 A2 A1 b1 b2 b1' e1 hw1 w1 hr
  simp only [rcells, EntD.cells] at HC HX
  go_enter Tryd.func64, Tryd.ntmps64
  go_wp2_with fail
  refine HC.out.mono ?_
  rintro e1 w2 ⟨vr, vq, bad, rfl, own1, ⟨B2, hB2, own2, hlt⟩, rb, hbad, ap⟩
  obtain ⟨a1, c1, rfl⟩ := own_form own1.2
  obtain ⟨a6, c6, rfl⟩ := own_form own2.2
  have eb := HX.out.1.apart ap (by omega)
  have HR : Hid (RBox w2 _ _ _ _) := rb
  obtain ⟨D, hD⟩ : ∃ D : EntD, D = ⟨.slice a1 row.length c1, fam, .slice a6 qual.length c6, ts, sq, kd, .slice none 0 0, row, qual, []⟩ := ⟨_, rfl⟩
  have A4 := (Below.refl w2.heap.size w2).alloc (Nat.le_refl _) (.cells D.cells 37)
  have ed := EBox.new w2 D
  have eb3 := eb.later A4
  have rb3 := HR.out.later A4
  have BW : Below w.heap.size w (w2.alloc (.cells D.cells 37)) := (HX.out.2.1.trans (ap.below (by omega) HX.out.2.1.size)).trans (A4.mono (Nat.le_trans HX.out.2.1.size ap.size))
  have ok3 : EntD.Ok (w2.alloc (.cells D.cells 37)) D := by
    subst hD
    exact ⟨(own1.rd hbr.1 hbr.2).later A4, (own2.rd hbq.1 hbq.2).later A4, Rd.nil _⟩
  have ck := check_any ok3
  subst hD
  simp only [EntD.cells] at ed eb3 rb3 ck BW
  have z1 := rb3.vb
  have z2 := rb3.vk
  have z3 := rb3.vd
  have y0 := eb3.vr
  have y1 := eb3.fam
  have y2 := eb3.vq
  have y3 := eb3.ts
  have y4 := eb3.seq
  have y5 := eb3.kind
  have y6 := eb3.vv
  have v0 := eb3.fz 0
  have v1 := eb3.fz 1
  have v2 := eb3.fz 2
  have v3 := eb3.fz 3
  have v4 := eb3.fz 4
  have v5 := eb3.fz 5
  have v6 := eb3.fz 6
  have u0 := ed.vr
  have u1 := ed.fam
  have u2 := ed.vq
  have u3 := ed.ts
  have u4 := ed.seq
  have u5 := ed.kind
  have u6 := ed.vv
  have HCK : Hid (Calls _ _ _ _ _) := ck
  clear HC rb ck eb ok3
  simp only at y0 y1 y2 y3 y4 y5 y6 u0 u1 u2 u3 u4 u5 u6 z1 z2 z3
  have HE3 : Hid (EBox _ w.heap.size _) := eb3
  have HBW : Hid (Below w.heap.size w _) := BW
  clear eb3 BW
  cases bad with
  | true =>
    have HN : Hid (¬ ok) := fun h => by have := hbad.2 h; cases this
    clear hbad
    have fa := filled_apart (w2.alloc (.cells #[.slice a1 row.length c1, .int .i64 (fam : Int), .slice a6 qual.length c6, .int .i64 (ts : Int), .int .i64 (sq : Int), .int .i64 (kd : Int), .slice none 0 0] 37)) w.heap.size ⟨.slice none 0 0, 0, .slice none 0 0, 0, 0, 0, .slice none 0 0, [], [], []⟩
    have fb := filled_box (HE3.out) ⟨.slice none 0 0, 0, .slice none 0 0, 0, 0, 0, .slice none 0 0, [], [], []⟩
    have bw : Below w.heap.size w (filled (w2.alloc (.cells #[.slice a1 row.length c1, .int .i64 (fam : Int), .slice a6 qual.length c6, .int .i64 (ts : Int), .int .i64 (sq : Int), .int .i64 (kd : Int), .slice none 0 0] 37)) w.heap.size ⟨.slice none 0 0, 0, .slice none 0 0, 0, 0, 0, .slice none 0 0, [], [], []⟩) := (HBW.out).trans (fa.below (Nat.le_refl _) (HBW.out).size)
    have HDN : Hid (_ ∧ _) := ⟨fb, bw⟩
    clear fa fb bw
    simp only [filled] at HDN
    go_wp2
    obtain ⟨fb, bw⟩ := HDN.out
    clear HDN
    generalize ((((((((w2.alloc (.cells #[.slice a1 row.length c1, .int .i64 (fam : Int), .slice a6 qual.length c6, .int .i64 (ts : Int), .int .i64 (sq : Int), .int .i64 (kd : Int), .slice none 0 0] 37)).setCell ⟨w.heap.size, 0, none⟩ (.slice none 0 0)).setCell ⟨w.heap.size, 1, none⟩ (.int .i64 0)).setCell ⟨w.heap.size, 2, none⟩ (.slice none 0 0)).setCell ⟨w.heap.size, 3, none⟩ (.int .i64 0)).setCell ⟨w.heap.size, 4, none⟩ (.int .i64 0)).setCell ⟨w.heap.size, 5, none⟩ (.int .i64 0)).setCell ⟨w.heap.size, 6, none⟩ (.slice none 0 0)) = wz at fb bw ⊢
    have t0 := fb.vr
    have t1 := fb.fam
    have t2 := fb.vq
    have t3 := fb.ts
    have t4 := fb.seq
    have t5 := fb.kind
    have t6 := fb.vv
    simp only at t0 t1 t2 t3 t4 t5 t6
    (try simp only [Exit.inBlock, Exit.then])
    refine bodyPost_ret (v := .tuple #[.agg #[.slice none 0 0, .int .i64 0, .slice none 0 0, .int .i64 0, .int .i64 0, .int .i64 0, .slice none 0 0], .int .i64 27]) ?hres rfl ?_
    case hres => simp [results, Tryd.results64, go_sem, t0, t1, t2, t3, t4, t5, t6]
    exact ⟨fun _ => rfl, fun h => absurd h (fun h => HN.out h.1), bw⟩
  | false =>
    have HOK : Hid ok := hbad.1 rfl
    clear hbad
    have hml := rd_lens HX.out.2.2.2
    have hml2 := hml.2.2.2
    clear hml
    by_cases hp : p = m
    · have hp1 : ((p : Int) != (m : Int)) = false := by simp; omega
      have hp2 : (p : Int) = (m : Int) := by omega
      go_wp2_with fail
      refine HCK.out.mono ?_
      rintro e4 w4 ⟨rfl, hb4⟩
      have E4 : EBox w4 w.heap.size _ := HE3.out.later hb4
      have D4 : EBox w4 w2.heap.size _ := ed.later hb4
      have HB4 : Hid (Below w.heap.size w w4) := HBW.out.trans (hb4.mono HBW.out.size)
      have HO : Hid (Own w4 _ (.slice a1 row.length c1) row.length row ∧ Own w4 B2 (.slice a6 qual.length c6) qual.length qual) := ⟨(own1.later A4).later hb4, (own2.later A4).later hb4⟩
      obtain ⟨C, hC⟩ : ∃ C, C = checkS ⟨.slice a1 row.length c1, fam, .slice a6 qual.length c6, ts, sq, kd, .slice none 0 0, row, qual, []⟩ := ⟨_, rfl⟩
      rw [← hC]
      have HCC : Hid (C = checkS ⟨.slice none 0 0, fam, .slice none 0 0, ts, sq, kd, .slice none 0 0, row, qual, []⟩) := hC
      have y0 := E4.vr
      have y1 := E4.fam
      have y2 := E4.vq
      have y3 := E4.ts
      have y4 := E4.seq
      have y5 := E4.kind
      have y6 := E4.vv
      have v0 := E4.fz 0
      have v1 := E4.fz 1
      have v2 := E4.fz 2
      have v3 := E4.fz 3
      have v4 := E4.fz 4
      have v5 := E4.fz 5
      have v6 := E4.fz 6
      have u0 := D4.vr
      have u1 := D4.fam
      have u2 := D4.vq
      have u3 := D4.ts
      have u4 := D4.seq
      have u5 := D4.kind
      have u6 := D4.vv
      simp only at y0 y1 y2 y3 y4 y5 y6 u0 u1 u2 u3 u4 u5 u6
      have HE4 : Hid (EBox w4 w.heap.size _) := E4
      clear E4 D4 hb4 hC HCK ed own1 own2 ap A4 HBW HE3
      dsimp only
      by_cases hz : C = 0
      · have hz1 : ((C : Int) != 0) = false := by simp; omega
        have hz2 : (C : Int) = 0 := by omega
        have fa := filled_apart w4 w.heap.size ⟨.slice a1 row.length c1, fam, .slice a6 qual.length c6, ts, sq, kd, .slice none 0 0, row, qual, []⟩
        have fb := filled_box (HE4.out) ⟨.slice a1 row.length c1, fam, .slice a6 qual.length c6, ts, sq, kd, .slice none 0 0, row, qual, []⟩
        have bw : Below w.heap.size w (filled w4 w.heap.size ⟨.slice a1 row.length c1, fam, .slice a6 qual.length c6, ts, sq, kd, .slice none 0 0, row, qual, []⟩) := (HB4.out).trans (fa.below (Nat.le_refl _) (HB4.out).size)
        have o1 := (HO.out.1.apartE (HE4.out) fa)
        have o2 := (HO.out.2.apartE (HE4.out) fa)
        have HDN : Hid (_ ∧ _ ∧ _ ∧ _) := ⟨fb, bw, o1, o2⟩
        clear fa fb bw o1 o2
        simp only [filled] at HDN
        go_wp2
        obtain ⟨fb, bw, o1, o2⟩ := HDN.out
        clear HDN
        generalize (((((((w4.setCell ⟨w.heap.size, 0, none⟩ (.slice a1 row.length c1)).setCell ⟨w.heap.size, 1, none⟩ (.int .i64 (fam : Int))).setCell ⟨w.heap.size, 2, none⟩ (.slice a6 qual.length c6)).setCell ⟨w.heap.size, 3, none⟩ (.int .i64 (ts : Int))).setCell ⟨w.heap.size, 4, none⟩ (.int .i64 (sq : Int))).setCell ⟨w.heap.size, 5, none⟩ (.int .i64 (kd : Int))).setCell ⟨w.heap.size, 6, none⟩ (.slice none 0 0)) = wz at fb bw o1 o2 ⊢
        have t0 := fb.vr
        have t1 := fb.fam
        have t2 := fb.vq
        have t3 := fb.ts
        have t4 := fb.seq
        have t5 := fb.kind
        have t6 := fb.vv
        simp only at t0 t1 t2 t3 t4 t5 t6
        (try simp only [Exit.inBlock, Exit.then])
        refine bodyPost_ret (v := .tuple #[.agg #[.slice a1 row.length c1, .int .i64 (fam : Int), .slice a6 qual.length c6, .int .i64 (ts : Int), .int .i64 (sq : Int), .int .i64 (kd : Int), .slice none 0 0], .int .i64 0]) ?hres rfl ?_
        case hres => simp [results, Tryd.results64, go_sem, t0, t1, t2, t3, t4, t5, t6]
        exact ⟨fun h => absurd ⟨HOK.out, hp, HCC.out.symm.trans hz⟩ h, fun _ => ⟨_, _, rfl, o1.mono HX.out.2.1.size, B2, Nat.le_trans HX.out.2.1.size hB2, o2, hlt⟩, bw⟩
      · have hz1 : ((C : Int) != 0) = true := by simp; omega
        have hz2 : ¬ ((C : Int) = 0) := by omega
        have fa := filled_apart w4 w.heap.size ⟨.slice none 0 0, 0, .slice none 0 0, 0, 0, 0, .slice none 0 0, [], [], []⟩
        have fb := filled_box (HE4.out) ⟨.slice none 0 0, 0, .slice none 0 0, 0, 0, 0, .slice none 0 0, [], [], []⟩
        have bw : Below w.heap.size w (filled w4 w.heap.size ⟨.slice none 0 0, 0, .slice none 0 0, 0, 0, 0, .slice none 0 0, [], [], []⟩) := (HB4.out).trans (fa.below (Nat.le_refl _) (HB4.out).size)
        have HDN : Hid (_ ∧ _) := ⟨fb, bw⟩
        clear fa fb bw
        simp only [filled] at HDN
        go_wp2
        obtain ⟨fb, bw⟩ := HDN.out
        clear HDN
        generalize (((((((w4.setCell ⟨w.heap.size, 0, none⟩ (.slice none 0 0)).setCell ⟨w.heap.size, 1, none⟩ (.int .i64 0)).setCell ⟨w.heap.size, 2, none⟩ (.slice none 0 0)).setCell ⟨w.heap.size, 3, none⟩ (.int .i64 0)).setCell ⟨w.heap.size, 4, none⟩ (.int .i64 0)).setCell ⟨w.heap.size, 5, none⟩ (.int .i64 0)).setCell ⟨w.heap.size, 6, none⟩ (.slice none 0 0)) = wz at fb bw ⊢
        have t0 := fb.vr
        have t1 := fb.fam
        have t2 := fb.vq
        have t3 := fb.ts
        have t4 := fb.seq
        have t5 := fb.kind
        have t6 := fb.vv
        simp only at t0 t1 t2 t3 t4 t5 t6
        (try simp only [Exit.inBlock, Exit.then])
        refine bodyPost_ret (v := .tuple #[.agg #[.slice none 0 0, .int .i64 0, .slice none 0 0, .int .i64 0, .int .i64 0, .int .i64 0, .slice none 0 0], .int .i64 27]) ?hres rfl ?_
        case hres => simp [results, Tryd.results64, go_sem, t0, t1, t2, t3, t4, t5, t6]
        exact ⟨fun _ => rfl, fun h => absurd h (fun h => hz (HCC.out.trans h.2.2)), bw⟩
    · have hp1 : ((p : Int) != (m : Int)) = true := by simp; omega
      have hp2 : ¬ ((p : Int) = (m : Int)) := by omega
      have fa := filled_apart (w2.alloc (.cells #[.slice a1 row.length c1, .int .i64 (fam : Int), .slice a6 qual.length c6, .int .i64 (ts : Int), .int .i64 (sq : Int), .int .i64 (kd : Int), .slice none 0 0] 37)) w.heap.size ⟨.slice none 0 0, 0, .slice none 0 0, 0, 0, 0, .slice none 0 0, [], [], []⟩
      have fb := filled_box (HE3.out) ⟨.slice none 0 0, 0, .slice none 0 0, 0, 0, 0, .slice none 0 0, [], [], []⟩
      have bw : Below w.heap.size w (filled (w2.alloc (.cells #[.slice a1 row.length c1, .int .i64 (fam : Int), .slice a6 qual.length c6, .int .i64 (ts : Int), .int .i64 (sq : Int), .int .i64 (kd : Int), .slice none 0 0] 37)) w.heap.size ⟨.slice none 0 0, 0, .slice none 0 0, 0, 0, 0, .slice none 0 0, [], [], []⟩) := (HBW.out).trans (fa.below (Nat.le_refl _) (HBW.out).size)
      have HDN : Hid (_ ∧ _) := ⟨fb, bw⟩
      clear fa fb bw
      simp only [filled] at HDN
      go_wp2
      obtain ⟨fb, bw⟩ := HDN.out
      clear HDN
      generalize ((((((((w2.alloc (.cells #[.slice a1 row.length c1, .int .i64 (fam : Int), .slice a6 qual.length c6, .int .i64 (ts : Int), .int .i64 (sq : Int), .int .i64 (kd : Int), .slice none 0 0] 37)).setCell ⟨w.heap.size, 0, none⟩ (.slice none 0 0)).setCell ⟨w.heap.size, 1, none⟩ (.int .i64 0)).setCell ⟨w.heap.size, 2, none⟩ (.slice none 0 0)).setCell ⟨w.heap.size, 3, none⟩ (.int .i64 0)).setCell ⟨w.heap.size, 4, none⟩ (.int .i64 0)).setCell ⟨w.heap.size, 5, none⟩ (.int .i64 0)).setCell ⟨w.heap.size, 6, none⟩ (.slice none 0 0)) = wz at fb bw ⊢
      have t0 := fb.vr
      have t1 := fb.fam
      have t2 := fb.vq
      have t3 := fb.ts
      have t4 := fb.seq
      have t5 := fb.kind
      have t6 := fb.vv
      simp only at t0 t1 t2 t3 t4 t5 t6
      (try simp only [Exit.inBlock, Exit.then])
      refine bodyPost_ret (v := .tuple #[.agg #[.slice none 0 0, .int .i64 0, .slice none 0 0, .int .i64 0, .int .i64 0, .int .i64 0, .slice none 0 0], .int .i64 27]) ?hres rfl ?_
      case hres => simp [results, Tryd.results64, go_sem, t0, t1, t2, t3, t4, t5, t6]
      exact ⟨fun _ => rfl, fun h => absurd h (fun h => hp h.2.1), bw⟩
end Go.Proofs.YtdkolihakmnpiaaDoor

namespace Go.Proofs.YtdkolihakmnpiaaDoor
open Go.RowKit
set_option linter.unusedVariables false
set_option maxRecDepth 100000 in
set_option maxHeartbeats 1000000 in
theorem refOrdered_any {v : Value} {bs : List Nat} {w : World} (hr : Rd w v bs) (hl : (ordL bs).length ≤ 140737488355328) :
    Calls Tryd.prog 83 #[v] w fun e w' => ∃ a m c, e = .returned (.slice a m c) ∧ Own w' w.heap.size (.slice a m c) m (ordL bs) ∧ Below w.heap.size w w' := by
  obtain ⟨a, n, cap, rfl⟩ := rd_slice hr
  obtain ⟨hn, hle, hm, hl48⟩ := rd_lens hr
  have HN : Hid (n = bs.length) := hn
  have hol := ordL_len bs
  rw [← hn] at hol
  obtain ⟨C, hC⟩ : ∃ C, C = bs.count 0 := ⟨_, rfl⟩
  rw [← hC] at hol
  have hsum : n + C + 2 ≤ 140737488355328 := by omega
  have HOL : Hid ((ordL bs).length = n + C + 2) := hol
  clear hn hC hm hol hl
  go_enter Tryd.func83, Tryd.ntmps83
  go_wp2
  go_loopw [3, 4] (fun s i wr => ∃ t a m c, t ≤ n ∧ i = .int .i64 ((t : Nat) : Int) ∧ s = .slice a m c ∧ Own wr w.heap.size (.slice a m c) m (escL (bs.take t)) ∧ Below w.heap.size w wr) (fun _ i _ => n - (intOf i).toNat)
  case atStart => exact ⟨0, _, _, _, Nat.zero_le _, rfl, rfl, ⟨rfl, World.ownsRow_nil _ _ _ _⟩, Below.refl _ _⟩
  case round =>
    obtain ⟨t, a1, m1, c1, htl, rfl, rfl, own1, hb1⟩ := hrel
    have hs1 := hb1.size
    have hme := escL_le bs t
    have hm1 : m1 ≤ n + C := by
      rw [own1.1]
      have := HOL.out
      unfold ordL at this
      rw [List.length_append] at this
      simp at this
      omega
    clear hme
    by_cases hlt : t < n
    · have hlt2 : (t : Int) < (n : Int) := by omega
      rcases rd_some hr with ⟨_, h0, _⟩ | ⟨b, off, rfl⟩
      · omega
      obtain ⟨hcell0, hcl⟩ := rd_cell hr t hlt
      have hcell : wr.cell? ⟨b, off + t, none⟩ = some (.int .u8 ((bs.getD t 0 : Nat) : Int)) := by
        rw [hb1.cell (p := ⟨b, off + t, none⟩) (World.block_lt_of_cell? w _ hcell0)]; exact hcell0
      have htk := take_succ_getD bs t (by rw [← HN.out]; exact hlt)
      obtain ⟨c, hcd⟩ : ∃ c, c = bs.getD t 0 := ⟨_, rfl⟩
      rw [← hcd] at hcell hcl htk
      have hbc := World.block_lt_of_cell? wr _ hcell
      have HTK : Hid (bs.take (t + 1) = bs.take t ++ [c]) := htk
      clear hcd htk
      by_cases hc0 : c = 0
      · subst hc0
        have HE : Hid (escL (bs.take (t + 1)) = (escL (bs.take t) ++ [0]) ++ [255]) := by
          unfold Hid; rw [HTK.out, escL_append]; simp [escL]
        go_wp2_with (first
          | (at_builtin; refine wpList_append_new rfl (.tmp 11) _ rfl w.heap.size a1 m1 c1 _ rfl own1 [_] 1 rfl [0] rfl rfl (by omega) hs1 ?_; intro a3 m3 c3 w3 own3 hb3; have hcell3 : w3.cell? ⟨b, off + t, none⟩ = some (.int .u8 ((0 : Nat) : Int)) := by (rw [(hb1.trans hb3).cell (p := ⟨b, off + t, none⟩) (World.block_lt_of_cell? w _ hcell0), ← hb1.cell (p := ⟨b, off + t, none⟩) (World.block_lt_of_cell? w _ hcell0)]; exact hcell))
          | (at_builtin; refine wpList_append_new rfl (.tmp 23) _ rfl w.heap.size a3 m3 c3 _ rfl own3 [_] 1 rfl [255] rfl rfl (own_room own3 hm1 hsum own1.1) (hb1.trans hb3).size ?_; intro a4 m4 c4 w4 own4 hb4))
        go_roundw
        case rel => exact ⟨t + 1, a4, m4, c4, by omega, by go_num, rfl, by rw [HE.out]; exact own4, (hb1.trans hb3).trans hb4⟩
        case measure => simp [intOf]; omega
      · have HE : Hid (escL (bs.take (t + 1)) = escL (bs.take t) ++ [c]) := by
          unfold Hid; rw [HTK.out, escL_append]; simp [escL, hc0]
        have hcb : ((c : Int) == 0) = false := by simp; omega
        clear hc0
        go_wp2_with (at_builtin; refine wpList_append_new rfl (.tmp 11) _ rfl w.heap.size a1 m1 c1 _ rfl own1 [_] 1 rfl [c] rfl rfl (by omega) hs1 ?_; intro a3 m3 c3 w3 own3 hb3; have hcell3 : w3.cell? ⟨b, off + t, none⟩ = some (.int .u8 ((c : Nat) : Int)) := by (rw [(hb1.trans hb3).cell (p := ⟨b, off + t, none⟩) (World.block_lt_of_cell? w _ hcell0), ← hb1.cell (p := ⟨b, off + t, none⟩) (World.block_lt_of_cell? w _ hcell0)]; exact hcell))
        go_roundw
        case rel => exact ⟨t + 1, a3, m3, c3, by omega, by go_num, rfl, by rw [HE.out]; exact own3, hb1.trans hb3⟩
        case measure => simp [intOf]; omega
    · have hge : (n : Int) ≤ (t : Int) := by omega
      have HE : Hid (escL (bs.take t) = escL bs) := by unfold Hid; rw [List.take_of_length_le (by rw [← HN.out]; omega)]
      go_wp2_with (at_builtin; refine wpList_append_new rfl (.tmp 26) _ rfl w.heap.size a1 m1 c1 _ rfl own1 [_, _] 2 rfl [0, 1] rfl rfl (by omega) hs1 ?_; intro a3 m3 c3 w3 own3 hb3)
      go_ret
      refine ⟨a3, m3, c3, rfl, ?_, hb1.trans hb3⟩
      unfold ordL
      rw [← HE.out]
      exact own3

theorem rord_step (c : Nat) (r acc : List Nat) (i : Nat) (hc : c ≠ 0) : rord (c :: r) acc i = rord r (acc ++ [c]) (i + 1) := by
  cases r with
  | nil => rfl
  | cons d r => rw [rord, if_pos hc]
theorem rord_nil (acc : List Nat) (i : Nat) : rord [] acc i = ([], 0, 10) := by rw [rord]
theorem rord_zero (d : Nat) (r acc : List Nat) (i : Nat) : rord (0 :: d :: r) acc i = if d = 1 then (acc, i + 2, 0) else if d = 255 then rord r (acc ++ [0]) (i + 2) else ([], 0, 11) := by
  conv => lhs; rw [rord]
  exact if_neg (by simp)

end Go.Proofs.YtdkolihakmnpiaaDoor

namespace Go.Proofs.YtdkolihakmnpiaaDoor
open Go.RowKit
set_option linter.unusedVariables false

set_option maxRecDepth 100000 in
set_option maxHeartbeats 1000000 in
theorem refUint_any (v : Nat) (hv : v < 18446744073709551616) (w : World) :
    Calls Tryd.prog 56 #[.int .u64 (v : Int)] w fun e w' => ∃ a m c, e = .returned (.slice a m c) ∧ Own w' w.heap.size (.slice a m c) m (uintL v) ∧ Below w.heap.size w w' := by
  go_enter Tryd.func56, Tryd.ntmps56
  go_wp2
  go_loopw [0, 3] (fun x s wr => ∃ (u f : Nat) (acc : List Nat) (a : Option Addr) (m c : Nat), x = .int .u64 (u : Int) ∧ u < 128 ^ (f + 1) ∧ u < 18446744073709551616 ∧ acc.length + f = 9 ∧ uintL v = acc ++ uintF f u ∧ s = .slice a m c ∧ Own wr w.heap.size (.slice a m c) m acc ∧ m ≤ 9 ∧ Below w.heap.size w wr)
    (fun x _ _ => (intOf x).toNat)
  case atStart => exact ⟨v, 9, [], _, _, _, rfl, by omega, hv, rfl, rfl, rfl, ⟨rfl, World.ownsRow_nil _ _ _ _⟩, by omega, Below.refl _ _⟩
  case round =>
    obtain ⟨u, f, acc, a1, m1, c1, rfl, hu, hu2, hacc, hl, rfl, own1, hm9, hb⟩ := hrel
    have HL : Hid (uintL v = acc ++ uintF f u) := hl
    have HU : Hid (u < 128 ^ (f + 1)) := hu
    have HA : Hid (acc.length + f = 9) := hacc
    clear hl hu hacc
    have hbs := hb.size
    by_cases hgt : 127 < u
    · have hgt2 : (127 : Int) < (u : Int) := by omega
      obtain ⟨f', hf'⟩ : ∃ f', f = f' + 1 := ⟨f - 1, by
        have h1 : f ≠ 0 := by
          intro h0
          have := HU.out
          rw [h0] at this
          omega
        omega⟩
      have HF : Hid (f = f' + 1) := hf'
      clear hf'
      go_wp2_with (at_builtin; refine wpList_append_new rfl (.tmp 6) _ rfl w.heap.size a1 m1 c1 _ rfl own1 [_] 1 rfl [u % 128 + 128] (by first | rfl | (simp [bv]; done) | (simp [bv]; omega)) rfl (by omega) hbs ?_; intro a3 m3 c3 w3 own3 hb3)
      go_roundw
      case rel =>
        refine ⟨u / 128, f', acc ++ [u % 128 + 128], a3, m3, c3, by go_num, ?_, by omega, by have := HA.out; have := HF.out; simp; omega, ?_, rfl, own3, by have := HA.out; have := HF.out; rw [own3.1]; simp; omega, hb.trans hb3⟩
        · have := HU.out
          rw [HF.out, Nat.pow_succ] at this
          exact Nat.div_lt_of_lt_mul (by rw [Nat.mul_comm]; exact this)
        · rw [HL.out, HF.out, uintF_go f' u hgt]; simp
      case measure => simp [intOf]; omega
    · have hgt2 : (u : Int) ≤ 127 := by omega
      go_wp2_with (at_builtin; refine wpList_append_new rfl (.tmp 15) _ rfl w.heap.size a1 m1 c1 _ rfl own1 [_] 1 rfl [u] (by first | rfl | (simp [bv]; done) | (simp [bv]; omega)) rfl (by omega) hbs ?_; intro a3 m3 c3 w3 own3 hb3)
      go_ret
      refine ⟨a3, m3, c3, rfl, ?_, hb.trans hb3⟩
      rw [HL.out, uintF_stop f u (by omega)]
      exact own3

set_option maxRecDepth 100000 in
set_option maxHeartbeats 1000000 in
theorem refBytes_any {v : Value} {bs : List Nat} {w : World} (hr : Rd w v bs) (hl : bs.length ≤ 140737488355312) :
    Calls Tryd.prog 57 #[v] w fun e w' => ∃ a m c, e = .returned (.slice a m c) ∧ Own w' w.heap.size (.slice a m c) m (bytesL bs) ∧ Below w.heap.size w w' := by
  obtain ⟨a, n, cap, rfl⟩ := rd_slice hr
  obtain ⟨hn, hle, hm, hl48⟩ := rd_lens hr
  rw [← hn] at hl
  have HN : Hid (n = bs.length) := hn
  clear hn
  have hn64 : n < 18446744073709551616 := by omega
  have hem : (n : Int) % 18446744073709551616 = (n : Int) := by omega
  have HU : ∀ m : Nat, m = (uintL n).length → m ≤ 10 := fun m h => by have := (uintL_len n).2; omega
  go_enter Tryd.func57, Tryd.ntmps57
  go_wp2_with fail
  refine (refUint_any n hn64 _).mono ?_
  rintro e w1 ⟨a1, m1, c1, rfl, own1, hb1⟩
  go_wp2_with (at_builtin; refine wpList_append_at rfl _ _ rfl w.heap.size a1 m1 c1 _ rfl own1 a n cap bs rfl (hr.later hb1) (by have := HU m1 own1.1; omega) hb1.size ?_; intro a5 m5 c5 w5 own5 hb5)
  go_ret
  refine ⟨a5, m5, c5, rfl, ?_, hb1.trans hb5⟩
  unfold bytesL
  rw [← HN.out]
  exact own5

theorem pow_le9 (i : Nat) (hi : i ≤ 9) : 128 ^ i ≤ 9223372036854775808 := Nat.le_trans (Nat.pow_le_pow_right (by omega) hi) (by decide)
theorem sum_lt (q c i : Nat) (hi : i ≤ 9) (hq : q < 128 ^ i) (h9 : i = 9 → c ≤ 1) : q + c % 128 * 128 ^ i < 18446744073709551616 := by
  by_cases h : i = 9
  · subst h
    have := h9 rfl
    have e : (128 : Nat) ^ 9 = 9223372036854775808 := by decide
    rw [e] at hq ⊢
    have : c % 128 ≤ 1 := by omega
    omega
  · have h1 := next_lt q c i hq
    have h2 := pow_le9 (i + 1) (by omega)
    omega
theorem wrapV (q c i U : Nat) (hi : i ≤ 9) (hU : U = 128 ^ i) (hq : q < 128 ^ i) (h9 : i = 9 → c ≤ 1) : IntKind.u64.wrap ((q : Int) + IntKind.u64.wrap ((U : Int) * ((c : Int) % 128))) = ((q + c % 128 * 128 ^ i : Nat) : Int) := by
  have e1 : (U : Int) * ((c : Int) % 128) = ((c % 128 * 128 ^ i : Nat) : Int) := by
    rw [hU, Int.natCast_mul, Int.mul_comm]; simp
  have h1 := shl_lt c i hi h9
  have h2 := sum_lt q c i hi hq h9
  rw [e1, IntKind.wrap_u64, IntKind.wrap_u64]
  omega
theorem wrapU (i U : Nat) (hi : i ≤ 8) (hU : U = 128 ^ i) : IntKind.u64.wrap ((U : Int) * 128) = ((128 ^ (i + 1) : Nat) : Int) := by
  have h := pow_le9 (i + 1) (by omega)
  have e : (U : Int) * 128 = ((128 ^ (i + 1) : Nat) : Int) := by rw [hU, Nat.pow_succ, Int.natCast_mul]; simp
  rw [e, IntKind.wrap_u64]
  omega
end Go.Proofs.YtdkolihakmnpiaaDoor

namespace Go.Proofs.YtdkolihakmnpiaaDoor
open Go.RowKit
set_option linter.unusedVariables false

theorem heap_new (w : World) (o : Obj) : (w.alloc o).heap[w.heap.size]? = some o := by
  show (w.heap.push o)[w.heap.size]? = some o
  simp

theorem own_one (w : World) (B x : Nat) (hB : B ≤ w.heap.size) : Own (w.alloc (.cells #[.int .u8 (x : Int)] 5)) B (.slice (some ⟨w.heap.size, 0, none⟩) 1 1) 1 [x] := by
  refine ⟨rfl, rfl, .inr ⟨w.heap.size, 1, #[.int .u8 (x : Int)], rfl, hB, heap_new w _, Nat.le_refl _, by decide, rfl, rfl⟩⟩

end Go.Proofs.YtdkolihakmnpiaaDoor

namespace Go.Proofs.YtdkolihakmnpiaaDoor
open Go.RowKit
set_option linter.unusedVariables false
theorem own_one' (w : World) (B x : Nat) (z : Int) (hz : z = (x : Int)) (hB : B ≤ w.heap.size) : Own (w.alloc (.cells #[.int .u8 z] 5)) B (.slice (some ⟨w.heap.size, 0, none⟩) 1 1) 1 [x] := by
  subst hz; exact own_one w B x hB
theorem be8_step (V t : Nat) (h : t < 8) : (be8 V).drop (8 - (t + 1)) = [V / 256 ^ t % 256] ++ (be8 V).drop (8 - t) := by
  have hl : (be8 V).length = 8 := rfl
  rw [drop_cons' (be8 V) (8 - (t + 1)) (by rw [hl]; omega), be8_get V _ (by omega), show 8 - (t + 1) + 1 = 8 - t by omega, show 7 - (8 - (t + 1)) = t by omega, Nat.pow_mul]
  rfl

set_option maxRecDepth 100000 in
set_option maxHeartbeats 1000000 in
theorem eight_any (V : Nat) (hV : V < 18446744073709551616) (w : World) :
    Calls Tryd.prog 101 #[.int .u64 (V : Int)] w fun e w' => ∃ a m c, e = .returned (.slice a m c) ∧ Own w' w.heap.size (.slice a m c) m (be8 V) ∧ Below w.heap.size w w' := by
  have HB8 : Hid (∀ t, ((be8 V).drop (8 - t)).length ≤ t) := fun t => by rw [List.length_drop]; have : (be8 V).length = 8 := rfl; omega
  have HBY : Hid (∀ t, Bys ((be8 V).drop (8 - t))) := fun t x hx => be8_bys V x (List.mem_of_mem_drop hx)
  go_enter Tryd.func101, Tryd.ntmps101
  go_wp2
  go_loopw [0, 3, 4] (fun x s i wr => ∃ (t u : Nat) (a : Option Addr) (m c : Nat), t ≤ 8 ∧ x = .int .u64 (u : Int) ∧ u = V / 256 ^ t ∧ i = .int .i64 (t : Int) ∧ s = .slice a m c ∧ Own wr w.heap.size (.slice a m c) m ((be8 V).drop (8 - t)) ∧ Below w.heap.size w wr) (fun _ _ i _ => 8 - (intOf i).toNat)
  case atStart => exact ⟨0, V, _, _, _, by omega, rfl, by simp, rfl, rfl, ⟨rfl, World.ownsRow_nil _ _ _ _⟩, Below.refl _ _⟩
  case round =>
    obtain ⟨t, u, a1, m1, c1, ht, rfl, hu, rfl, rfl, own1, hb⟩ := hrel
    have HU : Hid (u = V / 256 ^ t) := hu
    have hu64 : u < 18446744073709551616 := by rw [hu]; exact Nat.lt_of_le_of_lt (Nat.div_le_self _ _) hV
    clear hu
    have hbs := hb.size
    have hm1 : m1 ≤ t := by rw [own1.1]; exact HB8.out t
    by_cases hlt : t < 8
    · have hlt2 : (t : Int) < 8 := by omega
      have r1 := own1.rd (HBY.out t) (by omega)
      have HST : Hid ((be8 V).drop (8 - (t + 1)) = [u % 256] ++ (be8 V).drop (8 - t)) := by unfold Hid; rw [be8_step V t hlt, HU.out]
      go_wp2_with (at_builtin; refine wpList_append_at rfl (.tmp 12) _ rfl w.heap.size (some ⟨wr.heap.size, 0, none⟩) 1 1 [u % 256] rfl (own_one' wr w.heap.size (u % 256) _ (by first | rfl | omega | (simp; done) | (simp; omega)) hbs) a1 m1 c1 _ rfl (r1.later ((Below.refl _ _).alloc (Nat.le_refl _) _)) (by omega) (by simp; omega) ?_; intro a3 m3 c3 w3 own3 hb3)
      go_roundw
      case rel => exact ⟨t + 1, u / 256, a3, m3, c3, by omega, by go_num, by rw [HU.out, Nat.div_div_eq_div_mul, Nat.pow_succ], by go_num, rfl, by rw [HST.out]; exact own3, hb.trans (((Below.refl w.heap.size wr).alloc hbs _).trans hb3)⟩
      case measure => simp [intOf]; omega
    · have hge : (8 : Int) ≤ (t : Int) := by omega
      have ht8 : t = 8 := by omega
      have HT : Hid (t = 8) := ht8
      clear ht8
      go_wp2
      go_ret
      refine ⟨a1, m1, c1, rfl, ?_, hb⟩
      have h := own1
      rw [HT.out] at h
      simpa using h

set_option maxRecDepth 100000 in
theorem refRising_neg (z : Int) (hz : z < 0) (w : World) : Calls Tryd.prog 95 #[.int .i64 z] w fun e w' => e = .returned (.tuple #[.slice none 0 0, .int .i64 1]) ∧ w' = w := by
  go_enter Tryd.func95, Tryd.ntmps95
  go_wp2
  go_ret2
  exact ⟨rfl, rfl⟩
set_option maxRecDepth 100000 in
theorem refFalling_neg (z : Int) (hz : z < 0) (w : World) : Calls Tryd.prog 84 #[.int .i64 z] w fun e w' => e = .returned (.tuple #[.slice none 0 0, .int .i64 1]) ∧ w' = w := by
  go_enter Tryd.func84, Tryd.ntmps84
  go_wp2
  go_ret2
  exact ⟨rfl, rfl⟩
set_option maxRecDepth 100000 in
set_option maxHeartbeats 400000 in
theorem refRising_any (n : Nat) (hn : n < 9223372036854775808) (w : World) :
    Calls Tryd.prog 95 #[.int .i64 (n : Int)] w fun e w' => ∃ a m c, e = .returned (.tuple #[.slice a m c, .int .i64 0]) ∧ Own w' w.heap.size (.slice a m c) m (be8 n) ∧ Below w.heap.size w w' := by
  have h0 : (0 : Int) ≤ (n : Int) := by omega
  have hem : (n : Int) % 18446744073709551616 = (n : Int) := by omega
  go_enter Tryd.func95, Tryd.ntmps95
  go_wp2_with fail
  refine (eight_any n (by omega) _).mono ?_
  rintro e w1 ⟨a1, m1, c1, rfl, own1, hb1⟩
  go_wp2
  go_ret2
  exact ⟨a1, m1, c1, rfl, own1, hb1⟩
theorem refRising_at (z : Int) (n : Nat) (hz : z = (n : Int)) (hn : n < 9223372036854775808) (w : World) :
    Calls Tryd.prog 95 #[.int .i64 z] w fun e w' => ∃ a m c, e = .returned (.tuple #[.slice a m c, .int .i64 0]) ∧ Own w' w.heap.size (.slice a m c) m (be8 n) ∧ Below w.heap.size w w' := by
  subst hz; exact refRising_any n hn w
set_option maxRecDepth 100000 in
set_option maxHeartbeats 400000 in
theorem refFalling_any (n : Nat) (hn : n < 9223372036854775808) (w : World) :
    Calls Tryd.prog 84 #[.int .i64 (n : Int)] w fun e w' => ∃ a m c, e = .returned (.tuple #[.slice a m c, .int .i64 0]) ∧ Own w' w.heap.size (.slice a m c) m (be8 (9223372036854775807 - n)) ∧ Below w.heap.size w w' := by
  have h0 : (0 : Int) ≤ (n : Int) := by omega
  have h1 : (n : Int) ≤ 9223372036854775807 := by omega
  have HS : Hid ((9223372036854775807 : Int) - (n : Int) = ((9223372036854775807 - n : Nat) : Int)) := by unfold Hid; omega
  go_enter Tryd.func84, Tryd.ntmps84
  go_wp2_with fail
  refine (refRising_at _ (9223372036854775807 - n) HS.out (by omega) _).mono ?_
  rintro e w1 ⟨a1, m1, c1, rfl, own1, hb1⟩
  go_wp2
  go_ret2
  exact ⟨a1, m1, c1, rfl, own1, hb1⟩

theorem wrapN (v c : Nat) (h : v * 256 + c < 18446744073709551616) : IntKind.u64.wrap (IntKind.u64.wrap (256 * (v : Int)) + (c : Int)) = ((v * 256 + c : Nat) : Int) := by
  rw [IntKind.wrap_u64, IntKind.wrap_u64]; omega

theorem tup3i {X X' Y Y' Z : Int} (h1 : X = X') (h2 : Y = Y') : Ending.returned (Value.tuple #[Value.int .i64 X, Value.int .i64 Y, Value.int .i64 Z]) = Ending.returned (Value.tuple #[Value.int .i64 X', Value.int .i64 Y', Value.int .i64 Z]) := by rw [h1, h2]

end Go.Proofs.YtdkolihakmnpiaaDoor

namespace Go.Proofs.YtdkolihakmnpiaaDoor
open Go.RowKit
set_option linter.unusedVariables false

def plainD (vr vq vv : Value) : EntD := ⟨vr, 1, vq, 5, 32, 1, vv, [114], [113], [118]⟩
def zeroD : EntD := ⟨.slice none 0 0, 0, .slice none 0 0, 0, 0, 0, .slice none 0 0, [], [], []⟩
theorem rd_one {w : World} {g x : Nat} (h : w.cell? ⟨g, 0, none⟩ = some (.int .u8 (x : Int))) (hx : x < 256) : Rd w (.slice (some ⟨g, 0, none⟩) 1 1) [x] :=
  ⟨fun y hy => by simp at hy; omega, _, 1, rfl, Nat.le_refl _, by decide, by simp, .inr ⟨g, 0, rfl⟩, .inr ⟨g, 0, rfl, fun i hi => by
    obtain rfl : i = 0 := by simp at hi; omega
    simpa using h⟩⟩
theorem Apart.cell {g : Nat} {w w' : World} (h : Apart g w w') {k i : Nat} {x : Value} (hx : w.cell? ⟨k, i, none⟩ = some x) (hk : k ≠ g) : w'.cell? ⟨k, i, none⟩ = some x := by
  have hl : k < w.heap.size := World.block_lt_of_cell? w _ hx
  have e := h.block k hl hk
  unfold World.cell? at hx ⊢
  rw [e]
  exact hx


theorem three (w : World) (E : EntD) : ∃ w4, w4 = (((w.alloc (.cells E.cells 37)).alloc (.cells #[.int .u8 114] 5 (1, 2))).alloc (.cells #[.int .u8 113] 5 (1, 2))).alloc (.cells #[.int .u8 118] 5 (1, 2)) ∧ EBox w4 w.heap.size E ∧
    w4.cell? ⟨w.heap.size + 1, 0, none⟩ = some (.int .u8 114) ∧ w4.cell? ⟨w.heap.size + 2, 0, none⟩ = some (.int .u8 113) ∧ w4.cell? ⟨w.heap.size + 3, 0, none⟩ = some (.int .u8 118) ∧ Below w.heap.size w w4 := by
  have A1 := (Below.refl w.heap.size w).alloc (Nat.le_refl _) (.cells E.cells 37)
  have b1 := EBox.new w E
  have s1 : (w.alloc (.cells E.cells 37)).heap.size = w.heap.size + 1 := by simp
  obtain ⟨w1, hw1⟩ : ∃ w1, w1 = w.alloc (.cells E.cells 37) := ⟨_, rfl⟩
  rw [← hw1] at A1 b1 s1
  have A2 := (Below.refl w1.heap.size w1).alloc (Nat.le_refl _) (.cells #[.int .u8 114] 5 (1, 2))
  have s2 : (w1.alloc (.cells #[.int .u8 114] 5 (1, 2))).heap.size = w.heap.size + 2 := by simp [s1]
  have c2 : (w1.alloc (.cells #[.int .u8 114] 5 (1, 2))).cell? ⟨w.heap.size + 1, 0, none⟩ = some (.int .u8 114) := by rw [Joins.cell_alloc_mark_at _ _ _ _ _ _ s1.symm]; rfl
  obtain ⟨w2, hw2⟩ : ∃ w2, w2 = w1.alloc (.cells #[.int .u8 114] 5 (1, 2)) := ⟨_, rfl⟩
  rw [← hw2] at A2 s2 c2
  have A3 := (Below.refl w2.heap.size w2).alloc (Nat.le_refl _) (.cells #[.int .u8 113] 5 (1, 2))
  have s3 : (w2.alloc (.cells #[.int .u8 113] 5 (1, 2))).heap.size = w.heap.size + 3 := by simp [s2]
  have c3 : (w2.alloc (.cells #[.int .u8 113] 5 (1, 2))).cell? ⟨w.heap.size + 2, 0, none⟩ = some (.int .u8 113) := by rw [Joins.cell_alloc_mark_at _ _ _ _ _ _ s2.symm]; rfl
  obtain ⟨w3, hw3⟩ : ∃ w3, w3 = w2.alloc (.cells #[.int .u8 113] 5 (1, 2)) := ⟨_, rfl⟩
  rw [← hw3] at A3 s3 c3
  have A4 := (Below.refl w3.heap.size w3).alloc (Nat.le_refl _) (.cells #[.int .u8 118] 5 (1, 2))
  have c4 : (w3.alloc (.cells #[.int .u8 118] 5 (1, 2))).cell? ⟨w.heap.size + 3, 0, none⟩ = some (.int .u8 118) := by rw [Joins.cell_alloc_mark_at _ _ _ _ _ _ s3.symm]; rfl
  obtain ⟨w4, hw4⟩ : ∃ w4, w4 = w3.alloc (.cells #[.int .u8 118] 5 (1, 2)) := ⟨_, rfl⟩
  rw [← hw4] at A4 c4
  refine ⟨w4, by rw [hw4, hw3, hw2, hw1], ((b1.later A2).later A3).later A4, ?_, ?_, c4, ((A1.trans (A2.mono A1.size)).trans (A3.mono (by omega))).trans (A4.mono (by omega))⟩
  · rw [A4.cell (p := ⟨w.heap.size + 1, 0, none⟩) (by simp; omega), A3.cell (p := ⟨w.heap.size + 1, 0, none⟩) (by simp; omega)]; exact c2
  · rw [A4.cell (p := ⟨w.heap.size + 2, 0, none⟩) (by simp; omega)]; exact c3

def plainK : List Nat := [114, 0, 1, 1, 1, 113, 0, 1, 1, 127, 255, 255, 255, 255, 255, 255, 250, 127, 255, 255, 255, 255, 255, 255, 223, 1]
theorem plainK_bys : Bys plainK := by
  have h : ∀ x ∈ plainK, x < 256 := by decide
  exact h
theorem be8_a : be8 (9223372036854775807 - 5) = [127, 255, 255, 255, 255, 255, 255, 250] := by decide +kernel
theorem be8_b : be8 (9223372036854775807 - 32) = [127, 255, 255, 255, 255, 255, 255, 223] := by decide +kernel
theorem keyL_plain (vr vq vv : Value) : keyL (plainD vr vq vv) = plainK := by
  have h1 : ordL [114] = [114, 0, 1] := by simp [ordL, escL]
  have h2 : ordL [113] = [113, 0, 1] := by simp [ordL, escL]
  show ((((ordL [114] ++ [1, mark 1 5]) ++ (if (1 : Int) = 5 then [] else ordL [113] ++ [mark 1 4])) ++ be8 (9223372036854775807 - 5)) ++ be8 (9223372036854775807 - 32)) ++ [1] = plainK
  rw [h1, h2, be8_a, be8_b]
  simp [mark, plainK]

set_option maxRecDepth 100000 in
theorem refOut_in (n lo hi : Int) (w : World) (h1 : lo ≤ n) (h2 : n ≤ hi) : Calls Tryd.prog 51 #[.int .i64 n, .int .i64 lo, .int .i64 hi] w fun e w' => e = .returned (.bool false) ∧ w' = w := by
  have d1 : decide (n < lo) = false := by simpa using h1
  have d2 : decide (hi < n) = false := by simpa using h2
  go_enter Tryd.func51, Tryd.ntmps51
  go_wp2
  go_ret
  exact ⟨by first | rfl | simp [d1, d2], rfl⟩

end Go.Proofs.YtdkolihakmnpiaaDoor

namespace Go.Proofs.YtdkolihakmnpiaaDoor
open Go.RowKit
set_option linter.unusedVariables false

set_option maxRecDepth 100000 in
set_option maxHeartbeats 1000000 in
theorem refCheck_plain {vr vq vv : Value} {w : World} (hok : EntD.Ok w (plainD vr vq vv)) :
    Calls Tryd.prog 24 #[.agg (plainD vr vq vv).cells] w fun r w' => r = .returned (.int .i64 0) ∧ Below w.heap.size w w' := by
  obtain ⟨h1, h2, h3⟩ := hok
  obtain ⟨ar, nr, cr, e1⟩ := rd_slice h1
  obtain ⟨aq, nq, cq, e2⟩ := rd_slice h2
  obtain ⟨av, nv, cv, e3⟩ := rd_slice h3
  simp only [plainD] at e1 e2 e3 h1 h2 h3
  subst e1 e2 e3
  obtain rfl : nr = 1 := (rd_lens h1).1
  obtain rfl : nq = 1 := (rd_lens h2).1
  obtain rfl : nv = 1 := (rd_lens h3).1
  clear h1 h2 h3
  have A1 := (Below.refl w.heap.size w).alloc (Nat.le_refl _) (.cells (plainD (.slice ar 1 cr) (.slice aq 1 cq) (.slice av 1 cv)).cells 37)
  simp only [plainD, EntD.cells] at *
  go_enter Tryd.func24, Tryd.ntmps24
  go_wp2_with fail
  refine (refOut_in _ _ _ _ (by omega) (by omega)).mono ?_
  rintro e w1 ⟨rfl, rfl⟩
  go_wp2_with fail
  refine (refOut_in _ _ _ _ (by omega) (by omega)).mono ?_
  rintro e w1 ⟨rfl, rfl⟩
  go_wp2_with fail
  refine (refOut_in _ _ _ _ (by omega) (by omega)).mono ?_
  rintro e w1 ⟨rfl, rfl⟩
  go_wp2_with fail
  refine (refOut_in _ _ _ _ (by omega) (by omega)).mono ?_
  rintro e w1 ⟨rfl, rfl⟩
  go_wp2_with fail
  refine (refOut_in _ _ _ _ (by omega) (by omega)).mono ?_
  rintro e w1 ⟨rfl, rfl⟩
  go_wp2
  go_ret
  exact ⟨rfl, A1⟩
theorem wpList_append_gr {w : World} {ops : Array Oper} {rest : List Oper} {o : Oper} {a : Act} {Q : Exit → Act → World → Prop} (hgd : o.guard = none) (s x : Operand)
    (ho : o.op = .call { callee := .builtin .append, args := #[s, x], argTypes := #[24, 24] })
    (B : Nat) (a0 : Option Addr) (m0 c0 : Nat) (acc : List Nat) (hs : a.eval s = .slice a0 m0 c0) (hown : Own w B (.slice a0 m0 c0) m0 acc)
    (ao : Option Addr) (m c : Nat) (bs : List Nat) (hx : a.eval x = .slice ao m c) (hrd : Rd w (.slice ao m c) bs)
    (hbytes : m0 + m ≤ 140737488355328) (hB : B ≤ w.heap.size)
    (h : ∀ a' m' c' w', Own w' B (.slice a' m' c') m' (acc ++ bs) → Below B w w' → w.grownBy w' (Value.slice a0 m0 c0).ownBlock → wpList Tryd.prog ops Q rest (a.put o.dst (.slice a' m' c')) w') : wpList Tryd.prog ops Q (o :: rest) a w := by
  obtain ⟨i0, hi, hz0, hz1, hz2⟩ := info_parts info_byte
  obtain ⟨hby, a1, c1, h2, hle, hm, hl48, hnone, hat⟩ := hrd
  simp only [Value.slice.injEq] at h2
  obtain ⟨rfl, rfl, rfl⟩ := h2
  cases ao with
  | none =>
    have hb0 : bs = [] ∧ c = 0 := by
      rcases hnone with h | ⟨b, off, h⟩
      · exact ⟨List.eq_nil_of_length_eq_zero (by omega), h⟩
      · cases h
    obtain ⟨rfl, rfl⟩ := hb0
    refine wpList_append_own_none hgd s x 24 ho B 5 i0 1 und_bytes hi _ _ _ hs hown.2 (by simpa using hx) ?_
    exact h _ _ _ _ (by simpa using hown) (Below.refl _ _) (World.grownBy.refl _ _)
  | some ad =>
    refine wpList_append_own _ hgd s x 24 ho B 5 i0 (.int .u8 0) 1 1 und_bytes hi hz0 hz1 hz2 rfl (by decide) _ m0 (bv acc) hs hown.2 ad bs.length c (bv bs) hx (by simp [bv]) hat.add (bv_oneCell bs) (by unfold maxLen; omega) (by omega) hB ?_
    intro v' w' h1 h2 _
    obtain ⟨a', c', rfl⟩ := own_form h1
    refine h a' _ c' w' ⟨by rw [hown.1]; simp, by simpa [bv] using h1⟩ ((Below.refl B w).grown h2 hB (fun k hk => (hown.2.lt k hk).1)) h2


theorem Own.grown {w w' : World} {B m : Nat} {v : Value} {o : Option Nat} {xs : List Nat} (h : Own w B v m xs) (k : w.grownBy w' o) (hne : ∀ g, o = some g → g < B) : Own w' B v m xs := by
  refine ⟨h.1, h.2.1, ?_⟩
  rcases h.2.2 with h2 | ⟨g, cap, cur, h3, h4, h5, h6⟩
  · exact .inl h2
  · refine .inr ⟨g, cap, cur, h3, h4, ?_, h6⟩
    rw [k.block g (Array.getElem?_eq_some_iff.1 h5).1 ?_]
    · exact h5
    · intro e
      have := hne g e.symm
      omega

set_option maxRecDepth 100000 in
set_option maxHeartbeats 1000000 in
theorem refkey_plain {vr vq vv : Value} {w : World} (hok : EntD.Ok w (plainD vr vq vv)) :
    Calls Tryd.prog 74 #[.agg (plainD vr vq vv).cells] w fun r w' => ∃ a m c, r = .returned (.slice a m c) ∧ Own w' w.heap.size (.slice a m c) m plainK ∧ Below w.heap.size w w' := by
  obtain ⟨h1, h2, h3⟩ := hok
  have A1 := (Below.refl w.heap.size w).alloc (Nat.le_refl _) (.cells (plainD vr vq vv).cells 37)
  have bx1 : Hid (EBox (w.alloc (.cells (plainD vr vq vv).cells 37)) w.heap.size (plainD vr vq vv)) := EBox.new w (plainD vr vq vv)
  have o1 : ordL [114] = [114, 0, 1] := by simp [ordL, escL]
  have o2 : ordL [113] = [113, 0, 1] := by simp [ordL, escL]
  simp only [plainD, EntD.cells] at *
  have HRR : Hid (Rd w vr [114]) := h1
  have HRQ : Hid (Rd w vq [113]) := h2
  have HO : Hid (ordL [114] = [114, 0, 1] ∧ ordL [113] = [113, 0, 1]) := ⟨o1, o2⟩
  clear h1 h2 h3 o1 o2
  go_enter Tryd.func74, Tryd.ntmps74
  go_wp2_with fail
  refine (refOrdered_any (HRR.out.later A1) (by rw [HO.out.1]; decide)).mono ?_
  rintro e1 w1 ⟨a1, m1, c1, rfl, own1, hb1⟩
  rw [HO.out.1] at own1
  obtain rfl : m1 = 3 := own1.1
  have B1 := A1.trans (hb1.mono A1.size)
  have bx1b : Hid (EBox w1 w.heap.size _) := bx1.out.later hb1
  have hG : w.heap.size < w.heap.size + 1 := by omega
  have own1' : Own w1 (w.heap.size + 1) (.slice a1 3 c1) 3 [114, 0, 1] := by simpa using own1
  have hS1 : w.heap.size + 1 ≤ w1.heap.size := by have := hb1.size; simpa using this
  clear hb1 bx1 own1
  have bxw1 : Hid (EBox w1 w.heap.size _) := bx1b.out
  clear bx1b
  have xfam1 := bxw1.out.fam
  simp only at xfam1
  go_wp2_with (at_builtin; refine wpList_append_new rfl _ _ rfl (w.heap.size + 1) a1 3 c1 _ rfl own1' [_] 1 rfl [1] rfl rfl (by omega) hS1 ?_; intro a2 m2 c2 w2 own2 hb2; refine Hid.out ?_)
  refine Lib.hid ?_
  obtain rfl : m2 = 4 := by rw [own2.1]; rfl
  have bxw2 : Hid (EBox w2 w.heap.size _) := bxw1.out.keep hb2 hG
  have B2 := B1.trans (hb2.mono (Nat.le_of_lt hG))
  have hS2 : w.heap.size + 1 ≤ w2.heap.size := Nat.le_trans hS1 hb2.size
  clear bxw1 B1 hS1 hb2
  clear xfam1 own1'
  have xkind2 := bxw2.out.kind
  simp only at xkind2
  go_wp2_with (at_builtin; refine wpList_append_new rfl _ _ rfl (w.heap.size + 1) a2 4 c2 _ rfl own2 [_] 1 rfl [1] rfl rfl (by omega) hS2 ?_; intro a3 m3 c3 w3 own3 hb3; refine Hid.out ?_)
  refine Lib.hid ?_
  obtain rfl : m3 = 5 := by rw [own3.1]; rfl
  have bxw3 : Hid (EBox w3 w.heap.size _) := bxw2.out.keep hb3 hG
  have B3 := B2.trans (hb3.mono (Nat.le_of_lt hG))
  have hS3 : w.heap.size + 1 ≤ w3.heap.size := Nat.le_trans hS2 hb3.size
  clear bxw2 B2 hS2 hb3
  clear xkind2 own2
  have xvq3 := bxw3.out.vq
  simp only at xvq3
  go_wp2_with fail
  refine (refOrdered_any (HRQ.out.later B3) (by rw [HO.out.2]; decide)).mono ?_
  rintro e4 w4 ⟨a4, m4, c4, rfl, own4, hb4⟩
  rw [HO.out.2] at own4
  obtain rfl : m4 = 3 := own4.1
  have r4 : Rd w4 (.slice a4 3 c4) [113, 0, 1] := own4.rd (by intro x hx; simp at hx; omega) (by omega)
  have own34 := own3.later hb4
  have bxw4 : Hid (EBox w4 w.heap.size _) := bxw3.out.later hb4
  have B4 := B3.trans (hb4.mono B3.size)
  have hS4 : w.heap.size + 1 ≤ w4.heap.size := Nat.le_trans hS3 hb4.size
  clear bxw3 B3 hS3 hb4 own3 own4 xvq3
  go_wp2_with (at_builtin; refine wpList_append_at rfl _ _ rfl (w.heap.size + 1) a3 5 c3 _ rfl own34 a4 3 c4 _ rfl r4 (by omega) hS4 ?_; intro a5 m5 c5 w5 own5 hb5; refine Hid.out ?_)
  refine Lib.hid ?_
  obtain rfl : m5 = 8 := by rw [own5.1]; rfl
  have bxw5 : Hid (EBox w5 w.heap.size _) := bxw4.out.keep hb5 hG
  have B5 := B4.trans (hb5.mono (Nat.le_of_lt hG))
  have hS5 : w.heap.size + 1 ≤ w5.heap.size := Nat.le_trans hS4 hb5.size
  clear bxw4 B4 hS4 hb5
  clear own34 r4
  have xkind5 := bxw5.out.kind
  simp only at xkind5
  go_wp2_with (at_builtin; refine wpList_append_new rfl _ _ rfl (w.heap.size + 1) a5 8 c5 _ rfl own5 [_] 1 rfl [1] rfl rfl (by omega) hS5 ?_; intro a6 m6 c6 w6 own6 hb6; refine Hid.out ?_)
  refine Lib.hid ?_
  obtain rfl : m6 = 9 := by rw [own6.1]; rfl
  have bxw6 : Hid (EBox w6 w.heap.size _) := bxw5.out.keep hb6 hG
  have B6 := B5.trans (hb6.mono (Nat.le_of_lt hG))
  have hS6 : w.heap.size + 1 ≤ w6.heap.size := Nat.le_trans hS5 hb6.size
  clear bxw5 B5 hS5 hb6
  clear xkind5 own5
  have xts6 := bxw6.out.ts
  simp only at xts6
  go_wp2_with fail
  refine (refFalling_any 5 (by decide) _).mono ?_
  rintro e7 w7 ⟨a7, m7, c7, rfl, own7, hb7⟩
  rw [be8_a] at own7
  obtain rfl : m7 = 8 := own7.1
  have r7 : Rd w7 (.slice a7 8 c7) _ := own7.rd (by rw [← be8_a]; exact be8_bys _) (by omega)
  have own67 := own6.later hb7
  have bxw7 : Hid (EBox w7 w.heap.size _) := bxw6.out.later hb7
  have B7 := B6.trans (hb7.mono B6.size)
  have hS7 : w.heap.size + 1 ≤ w7.heap.size := Nat.le_trans hS6 hb7.size
  clear bxw6 B6 hS6 hb7 own6 own7 xts6
  have xseq7 := bxw7.out.seq
  simp only at xseq7
  go_wp2_with fail
  refine (refFalling_any 32 (by decide) _).mono ?_
  rintro e8 w8 ⟨a8, m8, c8, rfl, own8, hb8⟩
  rw [be8_b] at own8
  obtain rfl : m8 = 8 := own8.1
  have r8 : Rd w8 (.slice a8 8 c8) _ := own8.rd (by rw [← be8_b]; exact be8_bys _) (by omega)
  have r78 := r7.later hb8
  have own68 := own67.later hb8
  have HLT : Hid (∀ g, (Value.slice a6 9 c6).ownBlock = some g → g < w7.heap.size) := fun g hg => (own67.2.lt g hg).2
  have bxw8 : Hid (EBox w8 w.heap.size _) := bxw7.out.later hb8
  have B8 := B7.trans (hb8.mono B7.size)
  have hS8 : w.heap.size + 1 ≤ w8.heap.size := Nat.le_trans hS7 hb8.size
  have R8 : Hid (Own w8 w7.heap.size (.slice a8 8 c8) 8 [127, 255, 255, 255, 255, 255, 255, 223] ∧ Below w7.heap.size w7 w8) := ⟨own8, hb8⟩
  clear bxw7 B7 hb8 own67 own8 xseq7 r7
  go_wp2_with (at_builtin; refine wpList_append_gr rfl _ _ rfl (w.heap.size + 1) a6 9 c6 _ rfl own68 a7 8 c7 _ rfl r78 (by omega) hS8 ?_; intro a9 m9 c9 w9 own9 hb9 gr9; refine Hid.out ?_)
  refine Lib.hid ?_
  obtain rfl : m9 = 17 := by rw [own9.1]; rfl
  have r9 : Rd w9 (.slice a8 8 c8) _ := (R8.out.1.grown gr9 HLT.out).rd (by rw [← be8_b]; exact be8_bys _) (by omega)
  have bxw9 : Hid (EBox w9 w.heap.size _) := bxw8.out.keep hb9 hG
  have B9 := B8.trans (hb9.mono (Nat.le_of_lt hG))
  have hS9 : w.heap.size + 1 ≤ w9.heap.size := Nat.le_trans hS8 hb9.size
  clear bxw8 B8 hS8 hb9 own68 r78 r8 R8 HLT gr9 hS7
  go_wp2_with (at_builtin; refine wpList_append_at rfl _ _ rfl (w.heap.size + 1) a9 17 c9 _ rfl own9 a8 8 c8 _ rfl r9 (by omega) hS9 ?_; intro a10 m10 c10 w10 own10 hb10; refine Hid.out ?_)
  refine Lib.hid ?_
  obtain rfl : m10 = 25 := by rw [own10.1]; rfl
  have bxw10 : Hid (EBox w10 w.heap.size _) := bxw9.out.keep hb10 hG
  have B10 := B9.trans (hb10.mono (Nat.le_of_lt hG))
  have hS10 : w.heap.size + 1 ≤ w10.heap.size := Nat.le_trans hS9 hb10.size
  clear bxw9 B9 hS9 hb10 own9 r9
  have xk10 := bxw10.out.kind
  simp only at xk10
  go_wp2_with (at_builtin; refine wpList_append_new rfl _ _ rfl (w.heap.size + 1) a10 25 c10 _ rfl own10 [_] 1 rfl [1] rfl rfl (by omega) hS10 ?_; intro a11 m11 c11 w11 own11 hb11)
  go_ret
  exact ⟨a11, m11, c11, rfl, own11.mono (Nat.le_of_lt hG), B10.trans (hb11.mono (Nat.le_of_lt hG))⟩

set_option maxRecDepth 100000 in
set_option maxHeartbeats 1000000 in
theorem refKey_plain {vr vq vv : Value} {w : World} (hok : EntD.Ok w (plainD vr vq vv)) :
    Calls Tryd.prog 54 #[.agg (plainD vr vq vv).cells] w fun r w' => ∃ a m c, r = .returned (.tuple #[.slice a m c, .int .i64 0]) ∧ Own w' w.heap.size (.slice a m c) m plainK ∧ Below w.heap.size w w' := by
  have A1 := (Below.refl w.heap.size w).alloc (Nat.le_refl _) (.cells (plainD vr vq vv).cells 37)
  have bx1 : Hid (EBox (w.alloc (.cells (plainD vr vq vv).cells 37)) w.heap.size (plainD vr vq vv)) := EBox.new w (plainD vr vq vv)
  have HK : Hid (EntD.Ok w (plainD vr vq vv)) := hok
  have c1 := refCheck_plain (hok.later A1)
  have HC : Hid (Calls _ _ _ _ _) := c1
  clear hok c1
  have c2 := fun w' => @refkey_plain vr vq vv w'
  have HC2 : Hid (∀ w', EntD.Ok w' (plainD vr vq vv) → Calls _ _ _ _ _) := c2
  clear c2
  simp only [plainD, EntD.cells] at *
  go_enter Tryd.func54, Tryd.ntmps54
  go_wp2_with fail
  refine HC.out.mono ?_
  rintro e1 w1 ⟨rfl, hb1⟩
  have B1 := A1.trans (hb1.mono A1.size)
  have bx2 := bx1.out.later hb1
  have x0 := bx2.vr
  have x1 := bx2.fam
  have x2 := bx2.vq
  have x3 := bx2.ts
  have x4 := bx2.seq
  have x5 := bx2.kind
  have x6 := bx2.vv
  simp only at x0 x1 x2 x3 x4 x5 x6
  clear bx1 hb1 bx2 A1
  go_wp2_with fail
  refine (HC2.out _ (HK.out.later B1)).mono ?_
  rintro e2 w2 ⟨a2, m2, c2, rfl, own2, hb2⟩
  go_wp2
  go_ret2
  exact ⟨a2, m2, c2, rfl, own2.mono B1.size, B1.trans (hb2.mono B1.size)⟩

end Go.Proofs.YtdkolihakmnpiaaDoor

namespace Go.Proofs.YtdkolihakmnpiaaDoor
open Go.RowKit
set_option linter.unusedVariables false

theorem ordR_a : ordR plainK 0 = ([114], 3, 0) := by simp [ordR, plainK, rord]
theorem ordR_b : ordR plainK 5 = ([113], 8, 0) := by simp [ordR, plainK, rord]
theorem fallR_a : fallR plainK 9 = (5, 17, 0) := by decide +kernel
theorem fallR_b : fallR plainK 17 = (32, 25, 0) := by decide +kernel
theorem oneR_3 : oneR plainK 3 = (1, 4, false) := rfl
theorem oneR_4 : oneR plainK 4 = (1, 5, false) := rfl
theorem oneR_8 : oneR plainK 8 = (1, 9, false) := rfl
theorem oneR_25 : oneR plainK 25 = (1, 26, false) := rfl
theorem check_plain : checkS ⟨.slice none 0 0, ((1 : Nat) : Int), .slice none 0 0, ((5 : Nat) : Int), ((32 : Nat) : Int), ((1 : Nat) : Int), .slice none 0 0, [114], [113], []⟩ = 0 := by simp [checkS]
theorem parse_plain {w : World} {m c : Nat} {a : Option Addr} (hr : Rd w (.slice a m c) plainK) :
    Calls Tryd.prog 64 #[.slice a m c] w fun e w' => ∃ ar mr cr aq mq cq, e = .returned (.tuple #[.agg #[.slice ar mr cr, .int .i64 1, .slice aq mq cq, .int .i64 5, .int .i64 32, .int .i64 1, .slice none 0 0], .int .i64 0]) ∧ Below w.heap.size w w' := by
  obtain rfl : m = 26 := (rd_lens hr).1
  refine (parse_read (row := [114]) (qual := [113]) (fam := 1) (ts := 5) (sq := 32) (kd := 1) (p := 26) hr ⟨by intro x hx; simp at hx; omega, by simp⟩ ⟨by intro x hx; simp at hx; omega, by simp⟩
    (fun W g rb rd => entry_plain (fm := 1) (cm := 1) rb rd (by decide) ordR_a oneR_3 oneR_4 (by decide) ordR_b oneR_8 fallR_a fallR_b oneR_25)).mono ?_
  rintro e w1 ⟨_, h2, h3⟩
  obtain ⟨vr, vq, h4, o1, B, _, o2, _⟩ := h2 ⟨by simp [mark], rfl, check_plain⟩
  obtain ⟨ar, cr, rfl⟩ := own_form o1.2
  obtain ⟨aq, cq, rfl⟩ := own_form o2.2
  exact ⟨ar, _, cr, aq, _, cq, h4, h3⟩

theorem take_eq {xs ys : List Nat} {t : Nat} (h1 : t < xs.length) (h2 : t < ys.length) (h : xs.take t = ys.take t) (he : xs.getD t 0 = ys.getD t 0) : xs.take (t + 1) = ys.take (t + 1) := by
  rw [List.take_add_one, List.take_add_one, h, List.getElem?_eq_getElem h1, List.getElem?_eq_getElem h2]
  simp [List.getD, List.getElem?_eq_getElem h1, List.getElem?_eq_getElem h2] at he
  simp [he]

set_option maxRecDepth 100000 in
set_option maxHeartbeats 1000000 in
theorem alike_any {va vb : Value} {xs ys : List Nat} {w : World} (ha : Rd w va xs) (hb : Rd w vb ys) :
    Calls Tryd.prog 14 #[va, vb] w fun e w' => e = .returned (.bool (decide (xs = ys))) ∧ Below w.heap.size w w' := by
  obtain ⟨a, n, cap, rfl⟩ := rd_slice ha
  obtain ⟨b, m, capb, rfl⟩ := rd_slice hb
  obtain ⟨hn, _, _, hn48⟩ := rd_lens ha
  obtain ⟨hm, _, _, hm48⟩ := rd_lens hb
  have HN : Hid (n = xs.length) := hn
  have HM : Hid (m = ys.length) := hm
  clear hn hm
  by_cases hnm : n = m
  · subst hnm
    go_enter Tryd.func14, Tryd.ntmps14
    go_wp2
    go_loopw [5] (fun i wr => ∃ t : Nat, t ≤ n ∧ i = .int .i64 (t : Int) ∧ xs.take t = ys.take t ∧ Below w.heap.size w wr) (fun i _ => n - (intOf i).toNat)
    case atStart => exact ⟨0, by omega, rfl, rfl, Below.refl _ _⟩
    case round =>
      obtain ⟨t, htn, rfl, heq, hbk⟩ := hrel
      have HQ : Hid (xs.take t = ys.take t) := heq
      clear heq
      by_cases h1 : t < n
      · have h1' : (t : Int) < (n : Int) := by omega
        have ht0 : (0 : Int) ≤ (t : Int) := by omega
        rcases rd_some ha with ⟨_, h0, _⟩ | ⟨ba, oa, rfl⟩
        · omega
        rcases rd_some hb with ⟨_, h0, _⟩ | ⟨bb, ob, rfl⟩
        · omega
        obtain ⟨ca0, cal⟩ := rd_cell ha t h1
        obtain ⟨cb0, cbl⟩ := rd_cell hb t h1
        have ca : wr.cell? ⟨ba, oa + t, none⟩ = some (.int .u8 ((xs.getD t 0 : Nat) : Int)) := by
          rw [hbk.cell (p := ⟨ba, oa + t, none⟩) (World.block_lt_of_cell? w _ ca0)]; exact ca0
        have cb : wr.cell? ⟨bb, ob + t, none⟩ = some (.int .u8 ((ys.getD t 0 : Nat) : Int)) := by
          rw [hbk.cell (p := ⟨bb, ob + t, none⟩) (World.block_lt_of_cell? w _ cb0)]; exact cb0
        have HTE : Hid (xs.getD t 0 = ys.getD t 0 → xs.take (t + 1) = ys.take (t + 1)) := fun e => take_eq (by rw [← HN.out]; exact h1) (by rw [← HM.out]; exact h1) HQ.out e
        have HNE : Hid (xs.getD t 0 ≠ ys.getD t 0 → xs ≠ ys) := fun e h => e (by rw [h])
        obtain ⟨x, hx⟩ : ∃ x, x = xs.getD t 0 := ⟨_, rfl⟩
        obtain ⟨y, hy⟩ : ∃ y, y = ys.getD t 0 := ⟨_, rfl⟩
        rw [← hx] at ca cal HTE HNE
        rw [← hy] at cb cbl HTE HNE
        clear hx hy ca0 cb0
        by_cases hxy : x = y
        · subst hxy
          go_wp2
          go_quiet (fail)
          go_wp2
          go_roundw
          case rel => exact ⟨t + 1, by omega, by go_num, HTE.out trivial, below_drewN hbk _⟩
          case measure => simp [intOf]; omega
        · have hxy' : ¬ ((x : Int) = (y : Int)) := by omega
          go_wp2
          go_quiet (fail)
          go_wp2
          go_ret
          rw [decide_eq_false (HNE.out hxy)]
          exact ⟨rfl, below_drewN hbk _⟩
      · have h1' : (n : Int) ≤ (t : Int) := by omega
        go_wp2
        go_ret
        have e : xs = ys := by
          have := HQ.out
          rw [List.take_of_length_le (by rw [← HN.out]; omega), List.take_of_length_le (by rw [← HM.out]; omega)] at this
          exact this
        rw [decide_eq_true e]
        exact ⟨rfl, hbk⟩
  · have hnm' : ¬ ((n : Int) = (m : Int)) := by omega
    go_enter Tryd.func14, Tryd.ntmps14
    go_wp2
    go_ret
    rw [decide_eq_false (fun e => hnm (by rw [HN.out, HM.out, e]))]
    exact ⟨rfl, Below.refl _ _⟩

end Go.Proofs.YtdkolihakmnpiaaDoor

namespace Go.Proofs.YtdkolihakmnpiaaDoor
open Go.RowKit
set_option linter.unusedVariables false

theorem EBox.cells7 {w : World} {g : Nat} {e : EntD} (h : EBox w g e) : w.cell? ⟨g, 0, none⟩ = some e.vr ∧ w.cell? ⟨g, 1, none⟩ = some (.int .i64 e.fam) ∧ w.cell? ⟨g, 2, none⟩ = some e.vq ∧ w.cell? ⟨g, 3, none⟩ = some (.int .i64 e.ts) ∧ w.cell? ⟨g, 4, none⟩ = some (.int .i64 e.seq) ∧ w.cell? ⟨g, 5, none⟩ = some (.int .i64 e.kind) ∧ w.cell? ⟨g, 6, none⟩ = some e.vv := ⟨h.vr, h.fam, h.vq, h.ts, h.seq, h.kind, h.vv⟩
theorem check_plainD (vr vq vv : Value) : checkS (plainD vr vq vv) = 0 := by simp [checkS, plainD]
def badD (vr vq vv : Value) (seq : Int) : EntD := ⟨vr, 1, vq, 0, seq, 1, vv, [114], [113], [118]⟩
theorem check_badD (vr vq vv : Value) (seq : Int) : checkS (badD vr vq vv seq) = 23 := by simp [checkS, badD]

theorem cmp_plain (a b c x y z : Value) : compareS (plainD a b c) (badD x y z 32) = -1 := by simp [compareS, cmpsS, firstNZ, plainD, badD, ordC_self, cmpI, aheadS]
theorem alike_same {va vb : Value} {xs : List Nat} {w : World} (ha : Rd w va xs) (hb : Rd w vb xs) :
    Calls Tryd.prog 14 #[va, vb] w fun e w' => e = .returned (.bool true) ∧ Below w.heap.size w w' := by
  have h := alike_any ha hb
  rw [decide_eq_true rfl] at h
  exact h

end Go.Proofs.YtdkolihakmnpiaaDoor
