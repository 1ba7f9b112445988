import Derived.Test.YthpdlclgiggekaaCell7
namespace Go.Proofs.Ythpdlclgiggekaa
open Go.RowKit
set_option linter.unusedVariables false

theorem own_nil (w : World) (B : Nat) : Own w B (.slice none 0 0) ([] : List Nat).length [] := ⟨rfl, rfl, .inl ⟨rfl, rfl⟩⟩

set_option maxRecDepth 100000 in
set_option maxHeartbeats 8000000 in
theorem entry_fam {w : World} {g m c : Nat} {a : Option Addr} {bs row : List Nat} {p1 p2 p3 p6 p7 p8 E1 E6 E7 fam ts sq kd : Nat} {b2 b3 b8 : Bool}
    (h : RBox w g (.slice a m c) ((0 : Nat) : Int) false) (hr : Rd w (.slice a m c) bs) (h47 : bs.length ≤ 140737488355328)
    (q1 : ordR bs 0 = (row, p1, E1)) (q2 : oneR bs p1 = (fam, p2, b2)) (q3 : oneR bs p2 = (0, p3, b3))
    (q6 : fallR bs p3 = (ts, p6, E6)) (q7 : fallR bs p6 = (sq, p7, E7)) (q8 : oneR bs p7 = (kd, p8, b8)) :
    Calls Try.prog 63 #[.pointer (some ⟨g, 0, none⟩)] w fun e w' => Read w w' g (.slice a m c) e row [] fam ts sq kd p8 (E1 = 0 ∧ b2 = false ∧ b3 = false ∧ E6 = 0 ∧ E7 = 0 ∧ b8 = false ∧ 0 = mark kd 5 ∧ 1 = mark kd 4) := by
  have l1 : p1 ≤ bs.length := by have := ordR_le bs 0 (Nat.zero_le _); rw [q1] at this; exact this
  have l2 : p2 ≤ bs.length := by have := oneR_le bs p1 l1; rw [q2] at this; exact this
  have l3 : p3 ≤ bs.length := by have := oneR_le bs p2 l2; rw [q3] at this; exact this
  have l6 : p6 ≤ bs.length := by have := fallR_le bs p3 l3; rw [q6] at this; exact this
  have l7 : p7 ≤ bs.length := by have := fallR_le bs p6 l6; rw [q7] at this; exact this
  have u2 : fam < 256 := by have := oneR_lt bs p1 hr.1; rw [q2] at this; exact this
  have u8 : kd < 256 := by have := oneR_lt bs p7 hr.1; rw [q8] at this; exact this
  have QQ : Hid ((ordR bs 0 = (row, p1, E1) ∧ oneR bs p1 = (fam, p2, b2) ∧ oneR bs p2 = (0, p3, b3) ∧ fallR bs p3 = (ts, p6, E6) ∧ fallR bs p6 = (sq, p7, E7) ∧ oneR bs p7 = (kd, p8, b8)) ∧ p1 ≤ bs.length ∧ p2 ≤ bs.length ∧ p3 ≤ bs.length ∧ p6 ≤ bs.length ∧ p7 ≤ bs.length ∧ bs.length ≤ 140737488355328) :=
    ⟨⟨q1, q2, q3, q6, q7, q8⟩, l1, l2, l3, l6, l7, h47⟩
  have HB : Hid (RBox w g (.slice a m c) ((0 : Nat) : Int) false ∧ Rd w (.slice a m c) bs) := ⟨h, hr⟩
  have s0 : Hid (St w _ g _ 0 false _) := St.new h
  clear q1 q2 q3 q6 q7 q8 l1 l2 l3 l6 l7 h47 h hr
  simp only [EntD.cells] at s0
  obtain ⟨M5, hM5⟩ : ∃ M, M = (if (kd : Int) = 5 then 0 else 1 : Nat) := ⟨_, rfl⟩
  have cM5 := fun w => markOf_any (kd : Int) 5 w
  rw [← hM5] at cM5
  have HCM5 : Hid (∀ w, Calls Try.prog 60 #[.int .i64 (kd : Int), .int .i64 5] w fun e w' => e = .returned (.int .u8 ((M5 : Nat) : Int)) ∧ w' = w) := cM5
  have HM5 : Hid (M5 = mark (kd : Int) 5) := hM5
  obtain ⟨M4, hM4⟩ : ∃ M, M = (if (kd : Int) = 4 then 0 else 1 : Nat) := ⟨_, rfl⟩
  have cM4 := fun w => markOf_any (kd : Int) 4 w
  rw [← hM4] at cM4
  have HCM4 : Hid (∀ w, Calls Try.prog 60 #[.int .i64 (kd : Int), .int .i64 4] w fun e w' => e = .returned (.int .u8 ((M4 : Nat) : Int)) ∧ w' = w) := cM4
  have HM4 : Hid (M4 = mark (kd : Int) 4) := hM4
  clear hM5 hM4 cM5 cM4
  go_enter Try.func63, Try.ntmps63
  go_wp2_with fail
  refine (text_at 0 s0.out.rb (HB.out.2.apart HB.out.1 s0.out.ap) (Nat.zero_le _) QQ.out.2.2.2.2.2.2 QQ.out.1.1).mono ?_
  rintro e1 w1 ⟨a1, m1, c1, rfl, own1, rb1, ap1⟩
  have s1 := s0.out.call rb1 ap1
  have HSZ : Hid (w.heap.size ≤ _) := s0.out.ap.size
  have own1' := own1.apartE s1.eb (apart_set _ _ 0 (.slice a1 m1 c1))
  have s2 := s1.put 0 (.slice a1 m1 c1) (s1.eb.set0 (.slice a1 m1 c1) row)
  have f0 := s1.eb.fz 0
  have x0 := s1.eb.vr
  clear rb1 ap1 own1
  have S1 : Hid (St w w1 g _ _ _ _) := s1
  have S2 : Hid (St w _ g _ _ _ _) := s2
  clear s1 s2 s0
  simp only at x0 f0
  go_wp2_with fail
  generalize w1.setCell ⟨w.heap.size + 1, 0, none⟩ (.slice a1 m1 c1) = w2 at S2 own1' ⊢
  refine (one_at p1 S2.out.rb (HB.out.2.apart HB.out.1 S2.out.ap) QQ.out.2.1 QQ.out.1.2.1).mono ?_
  rintro e2 w3 ⟨rfl, rb3, ap3⟩
  have s1 := S2.out.call rb3 ap3
  have own2 := own1'.apart S2.out.rb ap3
  have own2' := own2.apartE s1.eb (apart_set _ _ 1 (.int .i64 (fam : Int)))
  have s2 := s1.put 1 (.int .i64 (fam : Int)) (s1.eb.set1 (fam : Int))
  have f1 := s1.eb.fz 1
  have x1 := s1.eb.fam
  have S4 : Hid (St w (w3.setCell ⟨w.heap.size + 1, 1, none⟩ (.int .i64 (fam : Int))) g _ _ _ _) := s2
  clear rb3 ap3 own1' s1 s2 S2 x0 f0 S1 own2
  simp only at x1 f1
  go_wp2_with fail
  generalize w3.setCell ⟨w.heap.size + 1, 1, none⟩ (.int .i64 (fam : Int)) = w4 at S4 own2' ⊢
  refine (one_at p2 S4.out.rb (HB.out.2.apart HB.out.1 S4.out.ap) QQ.out.2.2.1 QQ.out.1.2.2.1).mono ?_
  rintro e3 w5 ⟨rfl, rb5, ap5⟩
  have S5 : Hid (St w w5 g _ _ _ _) := S4.out.call rb5 ap5
  have own5 := own2'.apart S4.out.rb ap5
  have HQB : Hid (w.heap.size ≤ w5.heap.size ∧ ∀ k, (Value.slice a1 m1 c1).ownBlock = some k → k < w5.heap.size) := ⟨S5.out.ap.size, fun k hk => (own5.2.lt k hk).2⟩
  clear rb5 ap5 own2' S4 x1 f1
  go_wp2_with fail
  refine (fall_at p3 S5.out.rb (HB.out.2.apart HB.out.1 S5.out.ap) QQ.out.2.2.2.1 QQ.out.1.2.2.2.1).mono ?_
  rintro e6 w9 ⟨rfl, rb9, ap9⟩
  have s1 := S5.out.call rb9 ap9
  have own9 := (own5.apart S5.out.rb ap9).apartE s1.eb (apart_set _ _ 3 (.int .i64 (ts : Int)))
  have f3 := s1.eb.fz 3
  have x3 := s1.eb.ts
  have S10 : Hid (St w (w9.setCell ⟨w.heap.size + 1, 3, none⟩ (.int .i64 (ts : Int))) g _ _ _ _) := s1.put 3 (.int .i64 (ts : Int)) (s1.eb.set3 (ts : Int))
  clear rb9 ap9 own5 s1 S5
  simp only at x3 f3
  go_wp2_with fail
  generalize w9.setCell ⟨w.heap.size + 1, 3, none⟩ (.int .i64 (ts : Int)) = w10 at S10 own9  ⊢
  refine (fall_at p6 S10.out.rb (HB.out.2.apart HB.out.1 S10.out.ap) QQ.out.2.2.2.2.1 QQ.out.1.2.2.2.2.1).mono ?_
  rintro e7 w11 ⟨rfl, rb11, ap11⟩
  have s1 := S10.out.call rb11 ap11
  have own11 := (own9.apart S10.out.rb ap11).apartE s1.eb (apart_set _ _ 4 (.int .i64 (sq : Int)))
  have f4 := s1.eb.fz 4
  have x4 := s1.eb.seq
  have S12 : Hid (St w (w11.setCell ⟨w.heap.size + 1, 4, none⟩ (.int .i64 (sq : Int))) g _ _ _ _) := s1.put 4 (.int .i64 (sq : Int)) (s1.eb.set4 (sq : Int))
  clear rb11 ap11 own9  s1 S10 x3 f3
  simp only at x4 f4
  go_wp2_with fail
  generalize w11.setCell ⟨w.heap.size + 1, 4, none⟩ (.int .i64 (sq : Int)) = w12 at S12 own11  ⊢
  refine (one_at p7 S12.out.rb (HB.out.2.apart HB.out.1 S12.out.ap) QQ.out.2.2.2.2.2.1 QQ.out.1.2.2.2.2.2).mono ?_
  rintro e8 w13 ⟨rfl, rb13, ap13⟩
  have s1 := S12.out.call rb13 ap13
  have own13 := (own11.apart S12.out.rb ap13).apartE s1.eb (apart_set _ _ 5 (.int .i64 (kd : Int)))
  have f5 := s1.eb.fz 5
  have x5 := s1.eb.kind
  have S14 : Hid (St w (w13.setCell ⟨w.heap.size + 1, 5, none⟩ (.int .i64 (kd : Int))) g _ _ _ _) := s1.put 5 (.int .i64 (kd : Int)) (s1.eb.set5 (kd : Int))
  clear rb13 ap13 own11  s1 S12 x4 f4
  simp only at x5 f5
  go_wp2_with fail
  generalize w13.setCell ⟨w.heap.size + 1, 5, none⟩ (.int .i64 (kd : Int)) = w14 at S14 own13 ⊢
  clear x5 f5
  refine (HCM5.out _).mono ?_
  rintro e9 w15 ⟨rfl, rfl⟩
  have x0 := S14.out.eb.vr
  have x1 := S14.out.eb.fam
  have x2 := S14.out.eb.vq
  have x3 := S14.out.eb.ts
  have x4 := S14.out.eb.seq
  have x5 := S14.out.eb.kind
  have x6 := S14.out.eb.vv
  have r0 := S14.out.rs.vr
  have r1 := S14.out.rs.fam
  have r2 := S14.out.rs.vq
  have r3 := S14.out.rs.ts
  have r4 := S14.out.rs.seq
  have r5 := S14.out.rs.kind
  have r6 := S14.out.rs.vv
  have z0 := S14.out.rs.fz 0
  have z1 := S14.out.rs.fz 1
  have z2 := S14.out.rs.fz 2
  have z3 := S14.out.rs.fz 3
  have z4 := S14.out.rs.fz 4
  have z5 := S14.out.rs.fz 5
  have z6 := S14.out.rs.fz 6
  have rbd := S14.out.rb.vd
  have rbz := S14.out.rb.fz 2
  simp only at x0 x1 x2 x3 x4 x5 x6 r0 r1 r2 r3 r4 r5 r6
  have hgl : g < w.heap.size := S14.out.gl
  have hg1 : ¬ (g = w.heap.size) := by omega
  have hg2 : ¬ (g = w.heap.size + 1) := by omega
  have hg3 : ¬ (w.heap.size = g) := by omega
  have hg4 : ¬ (w.heap.size + 1 = g) := by omega
  by_cases h5x : M5 = 0
  · have h5 : Hid (M5 = 0) := h5x
    have h52 : (M5 : Int) = 0 := by omega
    clear h5x
    have h51 : ((0 : Int) != (M5 : Int)) = false := by simp; omega
    go_wp2_with fail
    refine (HCM4.out _).mono ?_
    rintro e9 w15 ⟨rfl, rfl⟩
    by_cases h4x : M4 = 1
    · have h4 : Hid (M4 = 1) := h4x
      have h42 : (M4 : Int) = 1 := by omega
      clear h4x
      have h41 : ((1 : Int) != (M4 : Int)) = false := by simp; omega
      have ST := S14.out
      have dn := ST.done
      have o1 := dn.2.2.2 _ _ _ _ (own13)
      have HDN : Hid (_ ∧ _ ∧ _ ∧ _) := ⟨dn.1, dn.2.1, dn.2.2.1, o1⟩
      clear ST dn o1
      simp only [filled] at HDN
      go_wp2
      obtain ⟨eb, ap, rb, o1⟩ := HDN.out
      clear HDN
      generalize (((((((w15.setCell ⟨w.heap.size, 0, none⟩ (.slice a1 m1 c1)).setCell ⟨w.heap.size, 1, none⟩ (.int .i64 (fam : Int))).setCell ⟨w.heap.size, 2, none⟩ (.slice none 0 0)).setCell ⟨w.heap.size, 3, none⟩ (.int .i64 (ts : Int))).setCell ⟨w.heap.size, 4, none⟩ (.int .i64 (sq : Int))).setCell ⟨w.heap.size, 5, none⟩ (.int .i64 (kd : Int))).setCell ⟨w.heap.size, 6, none⟩ (.slice none 0 0)) = wz at eb ap rb o1 ⊢
      have y0 := eb.vr
      have y1 := eb.fam
      have y2 := eb.vq
      have y3 := eb.ts
      have y4 := eb.seq
      have y5 := eb.kind
      have y6 := eb.vv
      simp only at y0 y1 y2 y3 y4 y5 y6
      refine bodyPost_ret (v := .agg #[.slice a1 m1 c1, .int .i64 (fam : Int), .slice none 0 0, .int .i64 (ts : Int), .int .i64 (sq : Int), .int .i64 (kd : Int), .slice none 0 0]) (by simp [results, Try.results63, go_sem, y0, y1, y2, y3, y4, y5, y6]) rfl ?_
      refine ⟨_, _, _, rfl, (own_len o1).mono HSZ.out, ⟨_, HQB.out.1, own_nil _ _, HQB.out.2⟩, rb, ?_, ap⟩
      rw [← HM5.out, ← HM4.out]
      simp [h5.out, h4.out, and_assoc]
    · have h41 : ((1 : Int) != (M4 : Int)) = true := by simp; omega
      have h42 : ¬ ((1 : Int) = (M4 : Int)) := by omega
      have ST := S14.out.spoil
      have dn := ST.done
      have o1 := dn.2.2.2 _ _ _ _ (own13.apart S14.out.rb (apart_set _ _ 2 (.bool true)))
      have HDN : Hid (_ ∧ _ ∧ _ ∧ _) := ⟨dn.1, dn.2.1, dn.2.2.1, o1⟩
      clear ST dn o1
      simp only [filled] at HDN
      go_wp2
      obtain ⟨eb, ap, rb, o1⟩ := HDN.out
      clear HDN
      generalize ((((((((w15.setCell ⟨g, 2, none⟩ (.bool true)).setCell ⟨w.heap.size, 0, none⟩ (.slice a1 m1 c1)).setCell ⟨w.heap.size, 1, none⟩ (.int .i64 (fam : Int))).setCell ⟨w.heap.size, 2, none⟩ (.slice none 0 0)).setCell ⟨w.heap.size, 3, none⟩ (.int .i64 (ts : Int))).setCell ⟨w.heap.size, 4, none⟩ (.int .i64 (sq : Int))).setCell ⟨w.heap.size, 5, none⟩ (.int .i64 (kd : Int))).setCell ⟨w.heap.size, 6, none⟩ (.slice none 0 0)) = wz at eb ap rb o1 ⊢
      have y0 := eb.vr
      have y1 := eb.fam
      have y2 := eb.vq
      have y3 := eb.ts
      have y4 := eb.seq
      have y5 := eb.kind
      have y6 := eb.vv
      simp only at y0 y1 y2 y3 y4 y5 y6
      refine bodyPost_ret (v := .agg #[.slice a1 m1 c1, .int .i64 (fam : Int), .slice none 0 0, .int .i64 (ts : Int), .int .i64 (sq : Int), .int .i64 (kd : Int), .slice none 0 0]) (by simp [results, Try.results63, go_sem, y0, y1, y2, y3, y4, y5, y6]) rfl ?_
      refine ⟨_, _, _, rfl, (own_len o1).mono HSZ.out, ⟨_, HQB.out.1, own_nil _ _, HQB.out.2⟩, rb, ?_, ap⟩
      rw [← HM5.out, ← HM4.out]
      simp [Ne.symm h4x]
  · have h51 : ((0 : Int) != (M5 : Int)) = true := by simp; omega
    have h52 : ¬ ((0 : Int) = (M5 : Int)) := by omega
    have ST := S14.out.spoil
    have dn := ST.done
    have o1 := dn.2.2.2 _ _ _ _ (own13.apart S14.out.rb (apart_set _ _ 2 (.bool true)))
    have HDN : Hid (_ ∧ _ ∧ _ ∧ _) := ⟨dn.1, dn.2.1, dn.2.2.1, o1⟩
    clear ST dn o1
    simp only [filled] at HDN
    go_wp2
    obtain ⟨eb, ap, rb, o1⟩ := HDN.out
    clear HDN
    generalize ((((((((w15.setCell ⟨g, 2, none⟩ (.bool true)).setCell ⟨w.heap.size, 0, none⟩ (.slice a1 m1 c1)).setCell ⟨w.heap.size, 1, none⟩ (.int .i64 (fam : Int))).setCell ⟨w.heap.size, 2, none⟩ (.slice none 0 0)).setCell ⟨w.heap.size, 3, none⟩ (.int .i64 (ts : Int))).setCell ⟨w.heap.size, 4, none⟩ (.int .i64 (sq : Int))).setCell ⟨w.heap.size, 5, none⟩ (.int .i64 (kd : Int))).setCell ⟨w.heap.size, 6, none⟩ (.slice none 0 0)) = wz at eb ap rb o1 ⊢
    have y0 := eb.vr
    have y1 := eb.fam
    have y2 := eb.vq
    have y3 := eb.ts
    have y4 := eb.seq
    have y5 := eb.kind
    have y6 := eb.vv
    simp only at y0 y1 y2 y3 y4 y5 y6
    refine bodyPost_ret (v := .agg #[.slice a1 m1 c1, .int .i64 (fam : Int), .slice none 0 0, .int .i64 (ts : Int), .int .i64 (sq : Int), .int .i64 (kd : Int), .slice none 0 0]) (by simp [results, Try.results63, go_sem, y0, y1, y2, y3, y4, y5, y6]) rfl ?_
    refine ⟨_, _, _, rfl, (own_len o1).mono HSZ.out, ⟨_, HQB.out.1, own_nil _ _, HQB.out.2⟩, rb, ?_, ap⟩
    rw [← HM5.out, ← HM4.out]
    simp [Ne.symm h5x]
end Go.Proofs.Ythpdlclgiggekaa
