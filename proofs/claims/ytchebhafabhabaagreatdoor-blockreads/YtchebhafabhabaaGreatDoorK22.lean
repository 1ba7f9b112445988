import Derived.Test.YtchebhafabhabaaGreatDoorK21
namespace Go.Proofs.YtchebhafabhabaaGreatDoor
open Go.RowKit Go.Shelf
set_option linter.unusedVariables false

theorem two_boxes5 (w : World) : EBox ((w.alloc (.cells #[.slice none 0 0, .int .i64 0, .slice none 0 0, .int .i64 0, .int .i64 0, .int .i64 0, .slice none 0 0] 40)).alloc (.cells #[.slice none 0 0, .int .i64 0, .slice none 0 0, .int .i64 0, .int .i64 0, .int .i64 0, .slice none 0 0] 40)) w.heap.size ⟨.slice none 0 0, 0, .slice none 0 0, 0, 0, 0, .slice none 0 0, [], [], []⟩ ∧ EBox ((w.alloc (.cells #[.slice none 0 0, .int .i64 0, .slice none 0 0, .int .i64 0, .int .i64 0, .int .i64 0, .slice none 0 0] 40)).alloc (.cells #[.slice none 0 0, .int .i64 0, .slice none 0 0, .int .i64 0, .int .i64 0, .int .i64 0, .slice none 0 0] 40)) (w.heap.size + 1) ⟨.slice none 0 0, 0, .slice none 0 0, 0, 0, 0, .slice none 0 0, [], [], []⟩ ∧ Below w.heap.size w ((w.alloc (.cells #[.slice none 0 0, .int .i64 0, .slice none 0 0, .int .i64 0, .int .i64 0, .int .i64 0, .slice none 0 0] 40)).alloc (.cells #[.slice none 0 0, .int .i64 0, .slice none 0 0, .int .i64 0, .int .i64 0, .int .i64 0, .slice none 0 0] 40)) ∧ ((w.alloc (.cells #[.slice none 0 0, .int .i64 0, .slice none 0 0, .int .i64 0, .int .i64 0, .int .i64 0, .slice none 0 0] 40)).alloc (.cells #[.slice none 0 0, .int .i64 0, .slice none 0 0, .int .i64 0, .int .i64 0, .int .i64 0, .slice none 0 0] 40)).heap.size = w.heap.size + 2 := by
 refine ⟨(EBox.new w ⟨.slice none 0 0, 0, .slice none 0 0, 0, 0, 0, .slice none 0 0, [], [], []⟩).later ((Below.refl _ _).alloc (Nat.le_refl _) _), ?_, ((Below.refl w.heap.size w).alloc (Nat.le_refl _) _).alloc (by simp) _, by simp⟩
 have h := EBox.new (w.alloc (.cells #[.slice none 0 0, .int .i64 0, .slice none 0 0, .int .i64 0, .int .i64 0, .int .i64 0, .slice none 0 0] 40)) ⟨.slice none 0 0, 0, .slice none 0 0, 0, 0, 0, .slice none 0 0, [], [], []⟩
 rwa [World.size_alloc] at h
set_option maxRecDepth 100000 in
set_option maxHeartbeats 16000000 in
theorem refEntry5_any {w : World} {ae al : Option Addr} {ne ce nl cl B0 : Nat} {E last : List Nat} (hE : Rd w (.slice ae ne ce) E) (hoL : Own w B0 (.slice al nl cl) nl last) (hbL : Bys last) (p : Nat) (hp : p ≤ E.length) (hla : last.length ≤ p) (h17 : E.length ≤ 131072) :
  Calls Tryz.prog 68 #[.slice ae ne ce, .int .i64 (p : Int), .slice al nl cl] w fun x w' => REp w E p last x w' := by
 have hform : (al = none ∧ nl = 0 ∧ cl = 0 ∧ last = []) ∨ ∃ g, al = some ⟨g, 0, none⟩ := by
  have hl := hoL.1
  rcases hoL.2.2 with ⟨h1, h2⟩ | ⟨g, cap, cur, h3, h4⟩
  ·simp only [Value.slice.injEq] at h1
   exact .inl ⟨h1.1, h1.2.1, h1.2.2, List.eq_nil_of_length_eq_zero (by omega)⟩
  ·simp only [Value.slice.injEq] at h3
   exact .inr ⟨g, h3.1⟩
 have hL : Rd w (.slice al nl cl) last := hoL.rd hbL (by have := hoL.1; omega)
 have HForm := Lib.hid hform
 clear hform hoL hbL
 obtain ⟨hBG, hBN, hA1, hsX⟩ := two_boxes5 w
 obtain ⟨X, hX⟩ : ∃ X, X = (w.alloc (.cells #[.slice none 0 0, .int .i64 0, .slice none 0 0, .int .i64 0, .int .i64 0, .int .i64 0, .slice none 0 0] 40)).alloc (.cells #[.slice none 0 0, .int .i64 0, .slice none 0 0, .int .i64 0, .int .i64 0, .int .i64 0, .slice none 0 0] 40) := ⟨_, rfl⟩
 rw [← hX] at hBG hBN hA1 hsX
 have HX := Lib.hid hX
 have BG := Lib.hid hBG
 have BN := Lib.hid hBN
 have HB := Lib.hid hA1
 have hne : ne = E.length := (rd_lens hE).1
 have hnl : nl = last.length := (rd_lens hL).1
 obtain ⟨V, P, Er, hu⟩ : ∃ V P Er, uintR E p = (V, P, Er) := ⟨_, _, _, rfl⟩
 have HE := Lib.hid hE
 have HL := Lib.hid hL
 have HNE := Lib.hid (And.intro hne (And.intro hnl (And.intro hp (And.intro hla h17))))
 have HU := Lib.hid hu
 have hne17 : ne ≤ 131072 := by omega
 have hnl17 : nl ≤ 131072 := by omega
 have HC1 := Lib.hid (refReadUint_at (hE.later hA1) (p : Int) p rfl hp hu)
 clear hX hBG hBN hA1 hE hL hu hne hnl hp hla h17
 go_enter Tryz.func68, Tryz.ntmps68
 go_wp2_with fail
 rw [← HX.out]
 clear HX
 refine HC1.out.mono ?_
 rintro e1 w1 ⟨rfl, rfl⟩
 clear HC1
 by_cases hE1 : Er = 0
 case neg =>
  have h1 : ¬ ((Er : Int) = 0) := by omega
  have h0 : ((Er : Int) != 0) = true := by simp; omega
  obtain ⟨g0, g1, g2, g3, g4, g5, g6⟩ := BG.out.cells7
  obtain ⟨gf0, gf1, gf2, gf3, gf4, gf5, gf6⟩ := BG.out.fz7b
  obtain ⟨m0, m1, m2, m3, m4, m5, m6⟩ := BN.out.cells7
  simp only at g0 g1 g2 g3 g4 g5 g6 m0 m1 m2 m3 m4 m5 m6
  have HDN : Hid (EBox (filled w1 w.heap.size ⟨.slice none 0 0, 0, .slice none 0 0, 0, 0, 0, .slice none 0 0, [], [], []⟩) w.heap.size ⟨.slice none 0 0, 0, .slice none 0 0, 0, 0, 0, .slice none 0 0, [], [], []⟩ ∧ Below w.heap.size w (filled w1 w.heap.size ⟨.slice none 0 0, 0, .slice none 0 0, 0, 0, 0, .slice none 0 0, [], [], []⟩)) := ⟨filled_box BG.out ⟨.slice none 0 0, 0, .slice none 0 0, 0, 0, 0, .slice none 0 0, [], [], []⟩, HB.out.trans ((filled_apart w1 w.heap.size ⟨.slice none 0 0, 0, .slice none 0 0, 0, 0, 0, .slice none 0 0, [], [], []⟩).below (Nat.le_refl _) HB.out.size)⟩
  simp only [filled] at HDN
  have HWhy : Hid (∀ key val p', ¬ RfR E p last key val p') := by
   intro key val p' h; obtain ⟨V', P', L1, p2, k1, -⟩ := rfr_un HNE.out.2.2.1 h; rw [HU.out] at k1; simp only [Prod.mk.injEq] at k1; exact hE1 k1.2.2
  go_wp2
  obtain ⟨fb, bw⟩ := HDN.out
  clear HDN
  generalize (((((((w1.setCell ⟨w.heap.size, 0, none⟩ (.slice none 0 0)).setCell ⟨w.heap.size, 1, none⟩ (.int .i64 0)).setCell ⟨w.heap.size, 2, none⟩ (.slice none 0 0)).setCell ⟨w.heap.size, 3, none⟩ (.int .i64 0)).setCell ⟨w.heap.size, 4, none⟩ (.int .i64 0)).setCell ⟨w.heap.size, 5, none⟩ (.int .i64 0)).setCell ⟨w.heap.size, 6, none⟩ (.slice none 0 0)) = wz at fb bw ⊢
  obtain ⟨t0, t1, t2, t3, t4, t5, t6⟩ := fb.cells7
  simp only at t0 t1 t2 t3 t4 t5 t6
  (try simp only [Exit.inBlock, Exit.then])
  refine bodyPost_ret (v := .tuple #[.agg #[.slice none 0 0, .int .i64 0, .slice none 0 0, .int .i64 0, .int .i64 0, .int .i64 0, .slice none 0 0], .slice none 0 0, .int .i64 0, .bool false]) ?hres rfl ?_
  case hres => simp [results, Tryz.results68, go_sem, t0, t1, t2, t3, t4, t5, t6]
  exact ⟨bw, .inl ⟨HWhy.out, rfl⟩⟩
 subst hE1
 have hcv : IntKind.u64.wrap (nl : Int) = (nl : Int) := IntWalk.u64_in _ ⟨by omega, by omega⟩
 by_cases hVl : V ≤ nl
 case neg =>
  have h1 : (nl : Int) < (V : Int) := by omega
  obtain ⟨g0, g1, g2, g3, g4, g5, g6⟩ := BG.out.cells7
  obtain ⟨gf0, gf1, gf2, gf3, gf4, gf5, gf6⟩ := BG.out.fz7b
  obtain ⟨m0, m1, m2, m3, m4, m5, m6⟩ := BN.out.cells7
  simp only at g0 g1 g2 g3 g4 g5 g6 m0 m1 m2 m3 m4 m5 m6
  have HDN : Hid (EBox (filled w1 w.heap.size ⟨.slice none 0 0, 0, .slice none 0 0, 0, 0, 0, .slice none 0 0, [], [], []⟩) w.heap.size ⟨.slice none 0 0, 0, .slice none 0 0, 0, 0, 0, .slice none 0 0, [], [], []⟩ ∧ Below w.heap.size w (filled w1 w.heap.size ⟨.slice none 0 0, 0, .slice none 0 0, 0, 0, 0, .slice none 0 0, [], [], []⟩)) := ⟨filled_box BG.out ⟨.slice none 0 0, 0, .slice none 0 0, 0, 0, 0, .slice none 0 0, [], [], []⟩, HB.out.trans ((filled_apart w1 w.heap.size ⟨.slice none 0 0, 0, .slice none 0 0, 0, 0, 0, .slice none 0 0, [], [], []⟩).below (Nat.le_refl _) HB.out.size)⟩
  simp only [filled] at HDN
  have HWhy : Hid (∀ key val p', ¬ RfR E p last key val p') := by
   intro key val p' h; obtain ⟨V', P', L1, p2, k1, k2, -⟩ := rfr_un HNE.out.2.2.1 h; rw [HU.out] at k1; simp only [Prod.mk.injEq] at k1; have := HNE.out.2.1; omega
  go_wp2
  obtain ⟨fb, bw⟩ := HDN.out
  clear HDN
  generalize (((((((w1.setCell ⟨w.heap.size, 0, none⟩ (.slice none 0 0)).setCell ⟨w.heap.size, 1, none⟩ (.int .i64 0)).setCell ⟨w.heap.size, 2, none⟩ (.slice none 0 0)).setCell ⟨w.heap.size, 3, none⟩ (.int .i64 0)).setCell ⟨w.heap.size, 4, none⟩ (.int .i64 0)).setCell ⟨w.heap.size, 5, none⟩ (.int .i64 0)).setCell ⟨w.heap.size, 6, none⟩ (.slice none 0 0)) = wz at fb bw ⊢
  obtain ⟨t0, t1, t2, t3, t4, t5, t6⟩ := fb.cells7
  simp only at t0 t1 t2 t3 t4 t5 t6
  (try simp only [Exit.inBlock, Exit.then])
  refine bodyPost_ret (v := .tuple #[.agg #[.slice none 0 0, .int .i64 0, .slice none 0 0, .int .i64 0, .int .i64 0, .int .i64 0, .slice none 0 0], .slice none 0 0, .int .i64 0, .bool false]) ?hres rfl ?_
  case hres => simp [results, Tryz.results68, go_sem, t0, t1, t2, t3, t4, t5, t6]
  exact ⟨bw, .inl ⟨HWhy.out, rfl⟩⟩
 have hVl1 : ¬ (nl : Int) < (V : Int) := by omega
 have hVl2 : (V : Int) ≤ (nl : Int) := by omega
 have hok0 := uintR_ok HU.out HNE.out.2.2.1
 obtain ⟨L1, p2, E2, hq2⟩ : ∃ L1 p2 E2, bytesR E P ne = (L1, p2, E2) := ⟨_, _, _, rfl⟩
 have HC2 : Hid (Calls Tryz.prog 98 #[.slice ae ne ce, .int .i64 (P : Int), .int .i64 (ne : Int)] w1 fun e w' => ∃ a m c, e = .returned (.tuple #[.slice a m c, .int .i64 (p2 : Int), .int .i64 (E2 : Int)]) ∧ Own w' w1.heap.size (.slice a m c) m L1 ∧ Below w1.heap.size w1 w') := by
  have h := refReadBytes_in (HE.out.later HB.out) P ne hok0.2.1 (by omega) (by have := HNE.out.2.2.2.2; omega)
  rw [hq2] at h
  exact h
 have HQ2 := Lib.hid hq2
 have HP := Lib.hid hok0
 clear hq2 hok0
 go_wp2_with fail
 refine HC2.out.mono ?_
 rintro e2 w2 ⟨a1, m1, c1, rfl, own1, b2⟩
 have HO1 := Lib.hid own1
 have BG := Lib.hid (BG.out.later b2)
 have BN := Lib.hid (BN.out.later b2)
 have HBo := Lib.hid HB.out
 have HB := Lib.hid (HB.out.trans (b2.mono HB.out.size))
 clear own1 HC2
 by_cases hE2 : E2 = 0
 case neg =>
  have h1 : ¬ ((E2 : Int) = 0) := by omega
  clear b2
  obtain ⟨g0, g1, g2, g3, g4, g5, g6⟩ := BG.out.cells7
  obtain ⟨gf0, gf1, gf2, gf3, gf4, gf5, gf6⟩ := BG.out.fz7b
  obtain ⟨m0, m1, m2, m3, m4, m5, m6⟩ := BN.out.cells7
  simp only at g0 g1 g2 g3 g4 g5 g6 m0 m1 m2 m3 m4 m5 m6
  have HDN : Hid (EBox (filled w2 w.heap.size ⟨.slice none 0 0, 0, .slice none 0 0, 0, 0, 0, .slice none 0 0, [], [], []⟩) w.heap.size ⟨.slice none 0 0, 0, .slice none 0 0, 0, 0, 0, .slice none 0 0, [], [], []⟩ ∧ Below w.heap.size w (filled w2 w.heap.size ⟨.slice none 0 0, 0, .slice none 0 0, 0, 0, 0, .slice none 0 0, [], [], []⟩)) := ⟨filled_box BG.out ⟨.slice none 0 0, 0, .slice none 0 0, 0, 0, 0, .slice none 0 0, [], [], []⟩, HB.out.trans ((filled_apart w2 w.heap.size ⟨.slice none 0 0, 0, .slice none 0 0, 0, 0, 0, .slice none 0 0, [], [], []⟩).below (Nat.le_refl _) HB.out.size)⟩
  simp only [filled] at HDN
  have HWhy : Hid (∀ key val p', ¬ RfR E p last key val p') := by
   intro key val p' h; obtain ⟨V', P', L1', p2', k1, k2, k3, -⟩ := rfr_un HNE.out.2.2.1 h; rw [HU.out] at k1; simp only [Prod.mk.injEq] at k1; obtain ⟨rfl, rfl, -⟩ := k1; rw [← HNE.out.1, HQ2.out] at k3; simp only [Prod.mk.injEq] at k3; exact hE2 k3.2.2
  go_wp2
  obtain ⟨fb, bw⟩ := HDN.out
  clear HDN
  generalize (((((((w2.setCell ⟨w.heap.size, 0, none⟩ (.slice none 0 0)).setCell ⟨w.heap.size, 1, none⟩ (.int .i64 0)).setCell ⟨w.heap.size, 2, none⟩ (.slice none 0 0)).setCell ⟨w.heap.size, 3, none⟩ (.int .i64 0)).setCell ⟨w.heap.size, 4, none⟩ (.int .i64 0)).setCell ⟨w.heap.size, 5, none⟩ (.int .i64 0)).setCell ⟨w.heap.size, 6, none⟩ (.slice none 0 0)) = wz at fb bw ⊢
  obtain ⟨t0, t1, t2, t3, t4, t5, t6⟩ := fb.cells7
  simp only at t0 t1 t2 t3 t4 t5 t6
  (try simp only [Exit.inBlock, Exit.then])
  refine bodyPost_ret (v := .tuple #[.agg #[.slice none 0 0, .int .i64 0, .slice none 0 0, .int .i64 0, .int .i64 0, .int .i64 0, .slice none 0 0], .slice none 0 0, .int .i64 0, .bool false]) ?hres rfl ?_
  case hres => simp [results, Tryz.results68, go_sem, t0, t1, t2, t3, t4, t5, t6]
  exact ⟨bw, .inl ⟨HWhy.out, rfl⟩⟩
 subst hE2
 have hb1 := bytes_back HE.out.1 HP.out.2.1 HQ2.out
 obtain ⟨L2, p3, E3, hq3⟩ : ∃ L2 p3 E3, bytesR E p2 ne = (L2, p3, E3) := ⟨_, _, _, rfl⟩
 have HC3 : Hid (Calls Tryz.prog 98 #[.slice ae ne ce, .int .i64 (p2 : Int), .int .i64 (ne : Int)] w2 fun e w' => ∃ a m c, e = .returned (.tuple #[.slice a m c, .int .i64 (p3 : Int), .int .i64 (E3 : Int)]) ∧ Own w' w2.heap.size (.slice a m c) m L2 ∧ Below w2.heap.size w2 w') := by
  have h := refReadBytes_in (HE.out.later HB.out) p2 ne hb1.2.2.1 (by omega) (by have := HNE.out.2.2.2.2; omega)
  rw [hq3] at h
  exact h
 have HQ3 := Lib.hid hq3
 have HP2 := Lib.hid hb1
 have hs2 : w1.heap.size ≤ w2.heap.size := b2.size
 clear hq3 hb1 b2
 go_wp2_with fail
 refine HC3.out.mono ?_
 rintro e3 w3 ⟨a2, m2, c2, rfl, own2, b3⟩
 have HO1 := Lib.hid (HO1.out.later b3)
 have HO2 := Lib.hid own2
 have BG := Lib.hid (BG.out.later b3)
 have BN := Lib.hid (BN.out.later b3)
 have HB := Lib.hid (HB.out.trans (b3.mono HB.out.size))
 have hs3 : w2.heap.size ≤ w3.heap.size := b3.size
 clear own2 HC3
 by_cases hE3 : E3 = 0
 case neg =>
  have h1 : ¬ ((E3 : Int) = 0) := by omega
  clear b3
  obtain ⟨g0, g1, g2, g3, g4, g5, g6⟩ := BG.out.cells7
  obtain ⟨gf0, gf1, gf2, gf3, gf4, gf5, gf6⟩ := BG.out.fz7b
  obtain ⟨m0, m1, m2, m3, m4, m5, m6⟩ := BN.out.cells7
  simp only at g0 g1 g2 g3 g4 g5 g6 m0 m1 m2 m3 m4 m5 m6
  have HDN : Hid (EBox (filled w3 w.heap.size ⟨.slice none 0 0, 0, .slice none 0 0, 0, 0, 0, .slice none 0 0, [], [], []⟩) w.heap.size ⟨.slice none 0 0, 0, .slice none 0 0, 0, 0, 0, .slice none 0 0, [], [], []⟩ ∧ Below w.heap.size w (filled w3 w.heap.size ⟨.slice none 0 0, 0, .slice none 0 0, 0, 0, 0, .slice none 0 0, [], [], []⟩)) := ⟨filled_box BG.out ⟨.slice none 0 0, 0, .slice none 0 0, 0, 0, 0, .slice none 0 0, [], [], []⟩, HB.out.trans ((filled_apart w3 w.heap.size ⟨.slice none 0 0, 0, .slice none 0 0, 0, 0, 0, .slice none 0 0, [], [], []⟩).below (Nat.le_refl _) HB.out.size)⟩
  simp only [filled] at HDN
  have HWhy : Hid (∀ key val p', ¬ RfR E p last key val p') := by
   intro key val p' h; obtain ⟨V', P', L1', p2', k1, k2, k3, k4, -⟩ := rfr_un HNE.out.2.2.1 h; rw [HU.out] at k1; simp only [Prod.mk.injEq] at k1; obtain ⟨rfl, rfl, -⟩ := k1; rw [← HNE.out.1, HQ2.out] at k3; simp only [Prod.mk.injEq] at k3; obtain ⟨rfl, rfl, -⟩ := k3; rw [← HNE.out.1, HQ3.out] at k4; simp only [Prod.mk.injEq] at k4; exact hE3 k4.2.2
  go_wp2
  obtain ⟨fb, bw⟩ := HDN.out
  clear HDN
  generalize (((((((w3.setCell ⟨w.heap.size, 0, none⟩ (.slice none 0 0)).setCell ⟨w.heap.size, 1, none⟩ (.int .i64 0)).setCell ⟨w.heap.size, 2, none⟩ (.slice none 0 0)).setCell ⟨w.heap.size, 3, none⟩ (.int .i64 0)).setCell ⟨w.heap.size, 4, none⟩ (.int .i64 0)).setCell ⟨w.heap.size, 5, none⟩ (.int .i64 0)).setCell ⟨w.heap.size, 6, none⟩ (.slice none 0 0)) = wz at fb bw ⊢
  obtain ⟨t0, t1, t2, t3, t4, t5, t6⟩ := fb.cells7
  simp only at t0 t1 t2 t3 t4 t5 t6
  (try simp only [Exit.inBlock, Exit.then])
  refine bodyPost_ret (v := .tuple #[.agg #[.slice none 0 0, .int .i64 0, .slice none 0 0, .int .i64 0, .int .i64 0, .int .i64 0, .slice none 0 0], .slice none 0 0, .int .i64 0, .bool false]) ?hres rfl ?_
  case hres => simp [results, Tryz.results68, go_sem, t0, t1, t2, t3, t4, t5, t6]
  exact ⟨bw, .inl ⟨HWhy.out, rfl⟩⟩
 subst hE3
 have hb2 := bytes_back HE.out.1 HP2.out.2.2.1 HQ3.out
 have HP3 := Lib.hid hb2
 have hbL1 := bytesR_bys HE.out.1 HQ2.out
 have hL1l : L1.length ≤ 131072 := by have := HP2.out.2.2.2; have := HNE.out.2.2.2.2; omega
 have hL2l : L2.length ≤ 131072 := by have := HP3.out.2.2.2; have := HNE.out.2.2.2.2; omega
 have hm1 : m1 ≤ 131072 := by have := HO1.out.1; omega
 have HL1 : Hid (Rd w3 (.slice a1 m1 c1) L1) := HO1.out.rd hbL1 (by omega)
 have HL3 := Lib.hid (HL.out.later HB.out)
 have HLb := Lib.hid (And.intro hbL1 (And.intro (bytesR_bys HE.out.1 HQ3.out) (And.intro hL1l hL2l)))
 have hsz3 : w.heap.size + 2 ≤ w3.heap.size := by omega
 have hsz2 : w.heap.size + 2 ≤ w2.heap.size := by omega
 have hV17 : V ≤ 131072 := by omega
 clear hbL1 hL1l hL2l b3 hs2 hs3 hsX
 rcases HForm.out with ⟨rfl, rfl, rfl, hl0⟩ | ⟨bb, rfl⟩
 ·obtain rfl : V = 0 := by omega
  have HT : Hid (Rd w3 (.slice none 0 0) (last.take 0)) := by
   have := HL3.out
   rw [hl0] at this ⊢
   exact this
  clear hl0
  go_upto_region 13 with (at_builtin; refine wpList_append_at rfl _ _ rfl w3.heap.size none 0 0 [] rfl ⟨rfl, World.ownsRow_nil _ _ _ _⟩ none 0 0 (last.take 0) rfl HT.out (by omega) (Nat.le_refl _) ?_; intro a4 m4 c4 w4 own4 b4)
  have O4 := Lib.hid (show Own w4 w3.heap.size (.slice a4 m4 c4) m4 (last.take 0) by simpa using own4)
  have hm4 : m4 ≤ 131072 := by have := O4.out.1; rw [List.length_take] at this; omega
  have HB4 := Lib.hid b4
  clear own4 b4
  go_wp2_with (at_builtin; refine wpList_append_at rfl _ _ rfl w3.heap.size a4 m4 c4 (last.take 0) rfl O4.out a1 m1 c1 L1 rfl (HL1.out.later HB4.out) (by omega) HB4.out.size ?_; intro a5 m5 c5 w5 own5 b5)
  have b35 := HB4.out.trans b5
  have hkb : Bys (last.take 0 ++ L1) := fun x hx => by
   rcases List.mem_append.1 hx with hx | hx
   ·exact HL.out.1 x (List.mem_of_mem_take hx)
   ·exact HLb.out.1 x hx
  have hkl : (last.take 0 ++ L1).length ≤ 262144 := by rw [List.length_append, List.length_take]; have := HLb.out.2.2.1; have := HNE.out.2.1; omega
  have hm5 : m5 ≤ 262144 := by have := own5.1; omega
  have HO5 := Lib.hid own5
  have HKb := Lib.hid hkb
  have HB5 := Lib.hid (HB.out.trans (b35.mono HB.out.size))
  refine (refParse_any (own5.rd hkb (by omega)) (by omega)).mono ?_
  have hs5 : w3.heap.size ≤ w5.heap.size := b35.size
  have BG := Lib.hid (BG.out.later b35)
  have BN := Lib.hid (BN.out.later b35)
  have HO2 := Lib.hid (HO2.out.later b35)
  clear own5 b5 b35 hkb hkl O4 HB4 HT HL1
  rintro e6 w6 ⟨b6, ⟨D, d1, d2, d3, d4, d5, d6, rfl, d8, B, d9, d10, d11⟩ | ⟨n1, rfl⟩⟩
  ·have BG := Lib.hid (BG.out.later b6)
   have HO2 := Lib.hid (HO2.out.later b6)
   have HO5 := Lib.hid (HO5.out.later b6)
   have HB6 := Lib.hid (HB5.out.trans (b6.mono HB5.out.size))
   have hs6 : w5.heap.size ≤ w6.heap.size := b6.size
   have HD := Lib.hid (And.intro d1 (And.intro d2 (And.intro d3 (And.intro d4 (And.intro d5 (And.intro d8 (d10.mono d9)))))))
   obtain ⟨vr, fam, vq, ts, seq, kind, vv, row, qual, val⟩ := D
   simp only at d6 d2
   subst d6
   subst d2
   obtain ⟨r1, q1, e1⟩ := own_form d8.2
   obtain ⟨r2, q2, e2⟩ := own_form d10.2
   simp only at e1 e2
   subst e1
   subst e2
   have bx7 := EBox.new w6 ⟨.slice r1 row.length q1, fam, .slice r2 qual.length q2, ts, seq, kind, .slice none 0 0, row, qual, []⟩
   have b7 := (Below.refl w6.heap.size w6).alloc (Nat.le_refl _) (.cells (EntD.mk (.slice r1 row.length q1) fam (.slice r2 qual.length q2) ts seq kind (.slice none 0 0) row qual []).cells 40)
   have bg7 := BG.out.later b7
   have bx8 := bx7.set6 (.slice a2 m2 c2) L2
   have b8 := b7.setCell (p := ⟨w6.heap.size, 6, none⟩) (Nat.le_refl _) (.slice a2 m2 c2)
   have bg8 := bg7.apart (apart_set _ w6.heap.size 6 (.slice a2 m2 c2)) (by omega)
   have f7 := bx7.fz 6
   have c7 := bx7.vv
   simp only [EntD.cells] at bx7 b7 bg7 bx8 b8 bg8 f7 c7 ⊢
   obtain ⟨nr, hnr⟩ : ∃ nr, nr = row.length := ⟨_, rfl⟩
   obtain ⟨nq, hnq⟩ : ∃ nq, nq = qual.length := ⟨_, rfl⟩
   have HNr := Lib.hid (And.intro hnr hnq)
   rw [← hnr, ← hnq] at bx7 b7 bg7 bx8 b8 bg8 f7 c7 ⊢
   obtain ⟨w7, h7⟩ : ∃ w7, w7 = w6.alloc (.cells #[.slice r1 nr q1, .int .i64 fam, .slice r2 nq q2, .int .i64 ts, .int .i64 seq, .int .i64 kind, .slice none 0 0] 40) := ⟨_, rfl⟩
   rw [← h7] at bx7 b7 bg7 bx8 b8 bg8 f7 c7
   have HDN : Hid (EBox (filled (w7.setCell ⟨w6.heap.size, 6, none⟩ (.slice a2 m2 c2)) w.heap.size ⟨.slice r1 nr q1, fam, .slice r2 nq q2, ts, seq, kind, .slice a2 m2 c2, row, qual, L2⟩) w.heap.size ⟨.slice r1 nr q1, fam, .slice r2 nq q2, ts, seq, kind, .slice a2 m2 c2, row, qual, L2⟩ ∧ Fb w6 (filled (w7.setCell ⟨w6.heap.size, 6, none⟩ (.slice a2 m2 c2)) w.heap.size ⟨.slice r1 nr q1, fam, .slice r2 nq q2, ts, seq, kind, .slice a2 m2 c2, row, qual, L2⟩) (fun k => k = w.heap.size)) := ⟨filled_box bg8 _, (Fb.of_below b8).trans (Fb.of_apart (filled_apart _ w.heap.size _) rfl)⟩
   simp only [filled] at HDN
   obtain ⟨g0, g1, g2, g3, g4, g5, g6⟩ := bg8.cells7
   obtain ⟨gf0, gf1, gf2, gf3, gf4, gf5, gf6⟩ := bg8.fz7b
   obtain ⟨x0, x1, x2, x3, x4, x5, x6⟩ := bx8.cells7
   simp only at g0 g1 g2 g3 g4 g5 g6 x0 x1 x2 x3 x4 x5 x6
   have H7 := Lib.hid h7
   clear bx7 b7 bg7 bx8 b8 bg8 hnr hnq h7 d1 d3 d4 d5 d8 d9 d10 d11 b6
   go_upto_region 17 with fail
   rw [← H7.out]
   clear H7
   go_wp2
   obtain ⟨fb, bw⟩ := HDN.out
   clear HDN
   generalize ((((((((w7.setCell ⟨w6.heap.size, 6, none⟩ (.slice a2 m2 c2)).setCell ⟨w.heap.size, 0, none⟩ (.slice r1 nr q1)).setCell ⟨w.heap.size, 1, none⟩ (.int .i64 fam)).setCell ⟨w.heap.size, 2, none⟩ (.slice r2 nq q2)).setCell ⟨w.heap.size, 3, none⟩ (.int .i64 ts)).setCell ⟨w.heap.size, 4, none⟩ (.int .i64 seq)).setCell ⟨w.heap.size, 5, none⟩ (.int .i64 kind)).setCell ⟨w.heap.size, 6, none⟩ (.slice a2 m2 c2)) = wz at fb bw ⊢
   obtain ⟨t0, t1, t2, t3, t4, t5, t6⟩ := fb.cells7
   simp only at t0 t1 t2 t3 t4 t5 t6
   (try simp only [Exit.inBlock, Exit.then])
   refine bodyPost_ret (v := .tuple #[.agg #[.slice r1 nr q1, .int .i64 fam, .slice r2 nq q2, .int .i64 ts, .int .i64 seq, .int .i64 kind, .slice a2 m2 c2], .slice a5 m5 c5, .int .i64 (p3 : Int), .bool true]) ?hres rfl ?_
   case hres => simp [results, Tryz.results68, go_sem, t0, t1, t2, t3, t4, t5, t6]
   obtain ⟨j1, j2, j3, j4, j5, j6, j7⟩ := HD.out
   have jf := check_facts j1
   simp only at j3 j4 j5 j6 j7 jf
   obtain ⟨rfl, rfl⟩ := HNr.out
   have o5 := HO5.out.fb bw (fun i hi => by have := (HO5.out.2.lt i hi).1; omega)
   have or_ := j6.fb bw (fun i hi => by have := (j6.2.lt i hi).1; omega)
   have oq := j7.fb bw (fun i hi => by have := (j7.2.lt i hi).1; omega)
   have ov := HO2.out.fb bw (fun i hi => by have := (HO2.out.2.lt i hi).1; omega)
   have hm2 : m2 = L2.length := ov.1
   have hkk : keyL ⟨.slice r1 row.length q1, fam, .slice r2 qual.length q2, ts, seq, kind, .slice a2 m2 c2, row, qual, L2⟩ = last.take 0 ++ L1 := j3
   refine ⟨HB6.out.trans (bw.below HB6.out.size (fun i hi => by omega)), .inr ⟨⟨.slice r1 row.length q1, fam, .slice r2 qual.length q2, ts, seq, kind, .slice a2 m2 c2, row, qual, L2⟩, p3, a5, m5, c5, ?_, ?_, rfl, ?_, ?_, ?_, ?_⟩⟩
   ·rw [hkk]
    have hq2 := HQ2.out
    have hq3 := HQ3.out
    rw [HNE.out.1] at hq2 hq3
    exact rfr_of HNE.out.2.2.1 (by have := HNE.out.2.2.1; have := HNE.out.2.2.2.1; omega) HU.out (by have := HNE.out.2.1; omega) hq2 hq3 ⟨_, j1, rfl, j3⟩
   ·have := ok_iff j1 rfl L2 (.slice r1 row.length q1) (.slice r2 qual.length q2) (.slice a2 m2 c2)
    exact this
   ·rw [hkk]; exact o5.mono (by omega)
   ·rw [hkk]; exact HKb.out
   ·exact ⟨or_.rd j4 (by omega), oq.rd j5 (by omega), ov.rd HLb.out.2.1 (by have := HLb.out.2.2.2; omega)⟩
   ·have ov' : Own wz w.heap.size (.slice a2 m2 c2) L2.length L2 := by
     have h := ov.mono (show w.heap.size ≤ w2.heap.size by omega)
     rw [← hm2]
     exact h
    exact ⟨or_.mono (by omega), oq.mono (by omega), ov'⟩
  ·have b7 := (Below.refl w6.heap.size w6).alloc (Nat.le_refl _) (.cells #[.slice none 0 0, .int .i64 0, .slice none 0 0, .int .i64 0, .int .i64 0, .int .i64 0, .slice none 0 0] 40)
   have BG := Lib.hid ((BG.out.later b6).later b7)
   have BN := Lib.hid ((BN.out.later b6).later b7)
   have HB6 := HB5.out.trans (b6.mono HB5.out.size)
   have HB := Lib.hid (HB6.trans (b7.mono HB6.size))
   obtain ⟨w7, h7⟩ : ∃ w7, w7 = w6.alloc (.cells #[.slice none 0 0, .int .i64 0, .slice none 0 0, .int .i64 0, .int .i64 0, .int .i64 0, .slice none 0 0] 40) := ⟨_, rfl⟩
   rw [← h7] at BG BN HB
   have H7 := Lib.hid h7
   clear HB6 b7 h7 b6
   go_upto_region 15 with fail
   rw [← H7.out]
   clear H7
   obtain ⟨g0, g1, g2, g3, g4, g5, g6⟩ := BG.out.cells7
   obtain ⟨gf0, gf1, gf2, gf3, gf4, gf5, gf6⟩ := BG.out.fz7b
   obtain ⟨m0, m1, m2, m3, m4, m5, m6⟩ := BN.out.cells7
   simp only at g0 g1 g2 g3 g4 g5 g6 m0 m1 m2 m3 m4 m5 m6
   have HDN : Hid (EBox (filled w7 w.heap.size ⟨.slice none 0 0, 0, .slice none 0 0, 0, 0, 0, .slice none 0 0, [], [], []⟩) w.heap.size ⟨.slice none 0 0, 0, .slice none 0 0, 0, 0, 0, .slice none 0 0, [], [], []⟩ ∧ Below w.heap.size w (filled w7 w.heap.size ⟨.slice none 0 0, 0, .slice none 0 0, 0, 0, 0, .slice none 0 0, [], [], []⟩)) := ⟨filled_box BG.out ⟨.slice none 0 0, 0, .slice none 0 0, 0, 0, 0, .slice none 0 0, [], [], []⟩, HB.out.trans ((filled_apart w7 w.heap.size ⟨.slice none 0 0, 0, .slice none 0 0, 0, 0, 0, .slice none 0 0, [], [], []⟩).below (Nat.le_refl _) HB.out.size)⟩
   simp only [filled] at HDN
   have HWhy : Hid (∀ key val p', ¬ RfR E p last key val p') := by
    intro key val p' h; obtain ⟨V', P', L1', p2', k1, k2, k3, k4, k5, k6⟩ := rfr_un HNE.out.2.2.1 h; rw [HU.out] at k1; simp only [Prod.mk.injEq] at k1; obtain ⟨rfl, rfl, -⟩ := k1; rw [← HNE.out.1, HQ2.out] at k3; simp only [Prod.mk.injEq] at k3; obtain ⟨rfl, rfl, -⟩ := k3; rw [k5] at k6; exact n1 k6
   go_wp2
   obtain ⟨fb, bw⟩ := HDN.out
   clear HDN
   generalize (((((((w7.setCell ⟨w.heap.size, 0, none⟩ (.slice none 0 0)).setCell ⟨w.heap.size, 1, none⟩ (.int .i64 0)).setCell ⟨w.heap.size, 2, none⟩ (.slice none 0 0)).setCell ⟨w.heap.size, 3, none⟩ (.int .i64 0)).setCell ⟨w.heap.size, 4, none⟩ (.int .i64 0)).setCell ⟨w.heap.size, 5, none⟩ (.int .i64 0)).setCell ⟨w.heap.size, 6, none⟩ (.slice none 0 0)) = wz at fb bw ⊢
   obtain ⟨t0, t1, t2, t3, t4, t5, t6⟩ := fb.cells7
   simp only at t0 t1 t2 t3 t4 t5 t6
   (try simp only [Exit.inBlock, Exit.then])
   refine bodyPost_ret (v := .tuple #[.agg #[.slice none 0 0, .int .i64 0, .slice none 0 0, .int .i64 0, .int .i64 0, .int .i64 0, .slice none 0 0], .slice none 0 0, .int .i64 0, .bool false]) ?hres rfl ?_
   case hres => simp [results, Tryz.results68, go_sem, t0, t1, t2, t3, t4, t5, t6]
   exact ⟨bw, .inl ⟨HWhy.out, rfl⟩⟩
 ·have HT : Hid (Rd w3 (.slice (some ⟨bb, 0, none⟩) V cl) (last.take V)) := by
   unfold Hid
   have h := HL3.out.sub 0 V (Nat.zero_le _) hVl (off' := 0) (n' := V) (cap' := cl) (by omega) (by omega) (by omega)
   simpa using h
  have hcl : (V : Int) ≤ (cl : Int) := by have := (rd_lens HL3.out).2.1; omega
  go_upto_region 13 with (at_builtin; refine wpList_append_at rfl _ _ rfl w3.heap.size none 0 0 [] rfl ⟨rfl, World.ownsRow_nil _ _ _ _⟩ (some ⟨bb, 0, none⟩) V cl (last.take V) rfl HT.out (by omega) (Nat.le_refl _) ?_; intro a4 m4 c4 w4 own4 b4)
  have O4 := Lib.hid (show Own w4 w3.heap.size (.slice a4 m4 c4) m4 (last.take V) by simpa using own4)
  have hm4 : m4 ≤ 131072 := by have := O4.out.1; rw [List.length_take] at this; omega
  have HB4 := Lib.hid b4
  clear own4 b4
  go_wp2_with (at_builtin; refine wpList_append_at rfl _ _ rfl w3.heap.size a4 m4 c4 (last.take V) rfl O4.out a1 m1 c1 L1 rfl (HL1.out.later HB4.out) (by omega) HB4.out.size ?_; intro a5 m5 c5 w5 own5 b5)
  have b35 := HB4.out.trans b5
  have hkb : Bys (last.take V ++ L1) := fun x hx => by
   rcases List.mem_append.1 hx with hx | hx
   ·exact HL.out.1 x (List.mem_of_mem_take hx)
   ·exact HLb.out.1 x hx
  have hkl : (last.take V ++ L1).length ≤ 262144 := by rw [List.length_append, List.length_take]; have := HLb.out.2.2.1; have := HNE.out.2.1; omega
  have hm5 : m5 ≤ 262144 := by have := own5.1; omega
  have HO5 := Lib.hid own5
  have HKb := Lib.hid hkb
  have HB5 := Lib.hid (HB.out.trans (b35.mono HB.out.size))
  refine (refParse_any (own5.rd hkb (by omega)) (by omega)).mono ?_
  have hs5 : w3.heap.size ≤ w5.heap.size := b35.size
  have BG := Lib.hid (BG.out.later b35)
  have BN := Lib.hid (BN.out.later b35)
  have HO2 := Lib.hid (HO2.out.later b35)
  clear own5 b5 b35 hkb hkl O4 HB4 HT HL1
  rintro e6 w6 ⟨b6, ⟨D, d1, d2, d3, d4, d5, d6, rfl, d8, B, d9, d10, d11⟩ | ⟨n1, rfl⟩⟩
  ·have BG := Lib.hid (BG.out.later b6)
   have HO2 := Lib.hid (HO2.out.later b6)
   have HO5 := Lib.hid (HO5.out.later b6)
   have HB6 := Lib.hid (HB5.out.trans (b6.mono HB5.out.size))
   have hs6 : w5.heap.size ≤ w6.heap.size := b6.size
   have HD := Lib.hid (And.intro d1 (And.intro d2 (And.intro d3 (And.intro d4 (And.intro d5 (And.intro d8 (d10.mono d9)))))))
   obtain ⟨vr, fam, vq, ts, seq, kind, vv, row, qual, val⟩ := D
   simp only at d6 d2
   subst d6
   subst d2
   obtain ⟨r1, q1, e1⟩ := own_form d8.2
   obtain ⟨r2, q2, e2⟩ := own_form d10.2
   simp only at e1 e2
   subst e1
   subst e2
   have bx7 := EBox.new w6 ⟨.slice r1 row.length q1, fam, .slice r2 qual.length q2, ts, seq, kind, .slice none 0 0, row, qual, []⟩
   have b7 := (Below.refl w6.heap.size w6).alloc (Nat.le_refl _) (.cells (EntD.mk (.slice r1 row.length q1) fam (.slice r2 qual.length q2) ts seq kind (.slice none 0 0) row qual []).cells 40)
   have bg7 := BG.out.later b7
   have bx8 := bx7.set6 (.slice a2 m2 c2) L2
   have b8 := b7.setCell (p := ⟨w6.heap.size, 6, none⟩) (Nat.le_refl _) (.slice a2 m2 c2)
   have bg8 := bg7.apart (apart_set _ w6.heap.size 6 (.slice a2 m2 c2)) (by omega)
   have f7 := bx7.fz 6
   have c7 := bx7.vv
   simp only [EntD.cells] at bx7 b7 bg7 bx8 b8 bg8 f7 c7 ⊢
   obtain ⟨nr, hnr⟩ : ∃ nr, nr = row.length := ⟨_, rfl⟩
   obtain ⟨nq, hnq⟩ : ∃ nq, nq = qual.length := ⟨_, rfl⟩
   have HNr := Lib.hid (And.intro hnr hnq)
   rw [← hnr, ← hnq] at bx7 b7 bg7 bx8 b8 bg8 f7 c7 ⊢
   obtain ⟨w7, h7⟩ : ∃ w7, w7 = w6.alloc (.cells #[.slice r1 nr q1, .int .i64 fam, .slice r2 nq q2, .int .i64 ts, .int .i64 seq, .int .i64 kind, .slice none 0 0] 40) := ⟨_, rfl⟩
   rw [← h7] at bx7 b7 bg7 bx8 b8 bg8 f7 c7
   have HDN : Hid (EBox (filled (w7.setCell ⟨w6.heap.size, 6, none⟩ (.slice a2 m2 c2)) w.heap.size ⟨.slice r1 nr q1, fam, .slice r2 nq q2, ts, seq, kind, .slice a2 m2 c2, row, qual, L2⟩) w.heap.size ⟨.slice r1 nr q1, fam, .slice r2 nq q2, ts, seq, kind, .slice a2 m2 c2, row, qual, L2⟩ ∧ Fb w6 (filled (w7.setCell ⟨w6.heap.size, 6, none⟩ (.slice a2 m2 c2)) w.heap.size ⟨.slice r1 nr q1, fam, .slice r2 nq q2, ts, seq, kind, .slice a2 m2 c2, row, qual, L2⟩) (fun k => k = w.heap.size)) := ⟨filled_box bg8 _, (Fb.of_below b8).trans (Fb.of_apart (filled_apart _ w.heap.size _) rfl)⟩
   simp only [filled] at HDN
   obtain ⟨g0, g1, g2, g3, g4, g5, g6⟩ := bg8.cells7
   obtain ⟨gf0, gf1, gf2, gf3, gf4, gf5, gf6⟩ := bg8.fz7b
   obtain ⟨x0, x1, x2, x3, x4, x5, x6⟩ := bx8.cells7
   simp only at g0 g1 g2 g3 g4 g5 g6 x0 x1 x2 x3 x4 x5 x6
   have H7 := Lib.hid h7
   clear bx7 b7 bg7 bx8 b8 bg8 hnr hnq h7 d1 d3 d4 d5 d8 d9 d10 d11 b6
   go_upto_region 17 with fail
   rw [← H7.out]
   clear H7
   go_wp2
   obtain ⟨fb, bw⟩ := HDN.out
   clear HDN
   generalize ((((((((w7.setCell ⟨w6.heap.size, 6, none⟩ (.slice a2 m2 c2)).setCell ⟨w.heap.size, 0, none⟩ (.slice r1 nr q1)).setCell ⟨w.heap.size, 1, none⟩ (.int .i64 fam)).setCell ⟨w.heap.size, 2, none⟩ (.slice r2 nq q2)).setCell ⟨w.heap.size, 3, none⟩ (.int .i64 ts)).setCell ⟨w.heap.size, 4, none⟩ (.int .i64 seq)).setCell ⟨w.heap.size, 5, none⟩ (.int .i64 kind)).setCell ⟨w.heap.size, 6, none⟩ (.slice a2 m2 c2)) = wz at fb bw ⊢
   obtain ⟨t0, t1, t2, t3, t4, t5, t6⟩ := fb.cells7
   simp only at t0 t1 t2 t3 t4 t5 t6
   (try simp only [Exit.inBlock, Exit.then])
   refine bodyPost_ret (v := .tuple #[.agg #[.slice r1 nr q1, .int .i64 fam, .slice r2 nq q2, .int .i64 ts, .int .i64 seq, .int .i64 kind, .slice a2 m2 c2], .slice a5 m5 c5, .int .i64 (p3 : Int), .bool true]) ?hres rfl ?_
   case hres => simp [results, Tryz.results68, go_sem, t0, t1, t2, t3, t4, t5, t6]
   obtain ⟨j1, j2, j3, j4, j5, j6, j7⟩ := HD.out
   have jf := check_facts j1
   simp only at j3 j4 j5 j6 j7 jf
   obtain ⟨rfl, rfl⟩ := HNr.out
   have o5 := HO5.out.fb bw (fun i hi => by have := (HO5.out.2.lt i hi).1; omega)
   have or_ := j6.fb bw (fun i hi => by have := (j6.2.lt i hi).1; omega)
   have oq := j7.fb bw (fun i hi => by have := (j7.2.lt i hi).1; omega)
   have ov := HO2.out.fb bw (fun i hi => by have := (HO2.out.2.lt i hi).1; omega)
   have hm2 : m2 = L2.length := ov.1
   have hkk : keyL ⟨.slice r1 row.length q1, fam, .slice r2 qual.length q2, ts, seq, kind, .slice a2 m2 c2, row, qual, L2⟩ = last.take V ++ L1 := j3
   refine ⟨HB6.out.trans (bw.below HB6.out.size (fun i hi => by omega)), .inr ⟨⟨.slice r1 row.length q1, fam, .slice r2 qual.length q2, ts, seq, kind, .slice a2 m2 c2, row, qual, L2⟩, p3, a5, m5, c5, ?_, ?_, rfl, ?_, ?_, ?_, ?_⟩⟩
   ·rw [hkk]
    have hq2 := HQ2.out
    have hq3 := HQ3.out
    rw [HNE.out.1] at hq2 hq3
    exact rfr_of HNE.out.2.2.1 (by have := HNE.out.2.2.1; have := HNE.out.2.2.2.1; omega) HU.out (by have := HNE.out.2.1; omega) hq2 hq3 ⟨_, j1, rfl, j3⟩
   ·have := ok_iff j1 rfl L2 (.slice r1 row.length q1) (.slice r2 qual.length q2) (.slice a2 m2 c2)
    exact this
   ·rw [hkk]; exact o5.mono (by omega)
   ·rw [hkk]; exact HKb.out
   ·exact ⟨or_.rd j4 (by omega), oq.rd j5 (by omega), ov.rd HLb.out.2.1 (by have := HLb.out.2.2.2; omega)⟩
   ·have ov' : Own wz w.heap.size (.slice a2 m2 c2) L2.length L2 := by
     have h := ov.mono (show w.heap.size ≤ w2.heap.size by omega)
     rw [← hm2]
     exact h
    exact ⟨or_.mono (by omega), oq.mono (by omega), ov'⟩
  ·have b7 := (Below.refl w6.heap.size w6).alloc (Nat.le_refl _) (.cells #[.slice none 0 0, .int .i64 0, .slice none 0 0, .int .i64 0, .int .i64 0, .int .i64 0, .slice none 0 0] 40)
   have BG := Lib.hid ((BG.out.later b6).later b7)
   have BN := Lib.hid ((BN.out.later b6).later b7)
   have HB6 := HB5.out.trans (b6.mono HB5.out.size)
   have HB := Lib.hid (HB6.trans (b7.mono HB6.size))
   obtain ⟨w7, h7⟩ : ∃ w7, w7 = w6.alloc (.cells #[.slice none 0 0, .int .i64 0, .slice none 0 0, .int .i64 0, .int .i64 0, .int .i64 0, .slice none 0 0] 40) := ⟨_, rfl⟩
   rw [← h7] at BG BN HB
   have H7 := Lib.hid h7
   clear HB6 b7 h7 b6
   go_upto_region 15 with fail
   rw [← H7.out]
   clear H7
   obtain ⟨g0, g1, g2, g3, g4, g5, g6⟩ := BG.out.cells7
   obtain ⟨gf0, gf1, gf2, gf3, gf4, gf5, gf6⟩ := BG.out.fz7b
   obtain ⟨m0, m1, m2, m3, m4, m5, m6⟩ := BN.out.cells7
   simp only at g0 g1 g2 g3 g4 g5 g6 m0 m1 m2 m3 m4 m5 m6
   have HDN : Hid (EBox (filled w7 w.heap.size ⟨.slice none 0 0, 0, .slice none 0 0, 0, 0, 0, .slice none 0 0, [], [], []⟩) w.heap.size ⟨.slice none 0 0, 0, .slice none 0 0, 0, 0, 0, .slice none 0 0, [], [], []⟩ ∧ Below w.heap.size w (filled w7 w.heap.size ⟨.slice none 0 0, 0, .slice none 0 0, 0, 0, 0, .slice none 0 0, [], [], []⟩)) := ⟨filled_box BG.out ⟨.slice none 0 0, 0, .slice none 0 0, 0, 0, 0, .slice none 0 0, [], [], []⟩, HB.out.trans ((filled_apart w7 w.heap.size ⟨.slice none 0 0, 0, .slice none 0 0, 0, 0, 0, .slice none 0 0, [], [], []⟩).below (Nat.le_refl _) HB.out.size)⟩
   simp only [filled] at HDN
   have HWhy : Hid (∀ key val p', ¬ RfR E p last key val p') := by
    intro key val p' h; obtain ⟨V', P', L1', p2', k1, k2, k3, k4, k5, k6⟩ := rfr_un HNE.out.2.2.1 h; rw [HU.out] at k1; simp only [Prod.mk.injEq] at k1; obtain ⟨rfl, rfl, -⟩ := k1; rw [← HNE.out.1, HQ2.out] at k3; simp only [Prod.mk.injEq] at k3; obtain ⟨rfl, rfl, -⟩ := k3; rw [k5] at k6; exact n1 k6
   go_wp2
   obtain ⟨fb, bw⟩ := HDN.out
   clear HDN
   generalize (((((((w7.setCell ⟨w.heap.size, 0, none⟩ (.slice none 0 0)).setCell ⟨w.heap.size, 1, none⟩ (.int .i64 0)).setCell ⟨w.heap.size, 2, none⟩ (.slice none 0 0)).setCell ⟨w.heap.size, 3, none⟩ (.int .i64 0)).setCell ⟨w.heap.size, 4, none⟩ (.int .i64 0)).setCell ⟨w.heap.size, 5, none⟩ (.int .i64 0)).setCell ⟨w.heap.size, 6, none⟩ (.slice none 0 0)) = wz at fb bw ⊢
   obtain ⟨t0, t1, t2, t3, t4, t5, t6⟩ := fb.cells7
   simp only at t0 t1 t2 t3 t4 t5 t6
   (try simp only [Exit.inBlock, Exit.then])
   refine bodyPost_ret (v := .tuple #[.agg #[.slice none 0 0, .int .i64 0, .slice none 0 0, .int .i64 0, .int .i64 0, .int .i64 0, .slice none 0 0], .slice none 0 0, .int .i64 0, .bool false]) ?hres rfl ?_
   case hres => simp [results, Tryz.results68, go_sem, t0, t1, t2, t3, t4, t5, t6]
   exact ⟨bw, .inl ⟨HWhy.out, rfl⟩⟩
end Go.Proofs.YtchebhafabhabaaGreatDoor

namespace Go.Proofs.YtchebhafabhabaaGreatDoor
open Go.RowKit Go.Shelf
set_option linter.unusedVariables false

set_option maxRecDepth 100000 in
set_option maxHeartbeats 1000000 in
theorem number5_any {b off n cap : Nat} {bs : List Nat} {w : World} (hr : Rd w (.slice (some ⟨b, off, none⟩) n cap) bs) (k : Nat) (hk : k + 4 ≤ n) :
  Calls Tryz.prog 67 #[.slice (some ⟨b, off, none⟩) n cap, .int .i64 (k : Int)] w fun e w' => e = .returned (.int .i64 ((rdle (bs.getD (k + 3) 0) (bs.getD (k + 2) 0) (bs.getD (k + 1) 0) (bs.getD k 0) : Nat) : Int)) ∧ Below w.heap.size w w' := by
 obtain ⟨hn, hle, hm, hl48⟩ := rd_lens hr
 obtain ⟨c0, h0⟩ := rd_cell hr k (by omega)
 obtain ⟨c1, h1⟩ := rd_cell hr (k + 1) (by omega)
 obtain ⟨c2, h2⟩ := rd_cell hr (k + 2) (by omega)
 obtain ⟨c3, h3⟩ := rd_cell hr (k + 3) (by omega)
 generalize bs.getD k 0 = x0 at *
 generalize bs.getD (k + 1) 0 = x1 at *
 generalize bs.getD (k + 2) 0 = x2 at *
 generalize bs.getD (k + 3) 0 = x3 at *
 have k0 : (0 : Int) ≤ (k : Int) := by omega
 have g0 : (k : Int) < (n : Int) := by omega
 have g1 : (k : Int) + 1 < (n : Int) := by omega
 have g2 : (k : Int) + 2 < (n : Int) := by omega
 have g3 : (k : Int) + 3 < (n : Int) := by omega
 have q1 : (0 : Int) ≤ (k : Int) + 1 := by omega
 have q2 : (0 : Int) ≤ (k : Int) + 2 := by omega
 have q3 : (0 : Int) ≤ (k : Int) + 3 := by omega
 have e1 : IntKind.i64.wrap ((k : Int) + 1) = (k : Int) + 1 := IntWalk.i64_in _ ⟨by omega, by omega⟩
 have e2 : IntKind.i64.wrap ((k : Int) + 2) = (k : Int) + 2 := IntWalk.i64_in _ ⟨by omega, by omega⟩
 have e3 : IntKind.i64.wrap ((k : Int) + 3) = (k : Int) + 3 := IntWalk.i64_in _ ⟨by omega, by omega⟩
 clear hn hr
 go_enter Tryz.func67, Tryz.ntmps67
 go_wp2
 go_quiet (fail)
 go_wp2
 go_ret
 refine ⟨?_, below_drewN (Below.refl _ _) _⟩
 exact congrArg (fun z : Int => Ending.returned (Value.int .i64 z)) (show (((x0 : Int) * 256 + (x1 : Int)) * 256 + (x2 : Int)) * 256 + (x3 : Int) = ((rdle x3 x2 x1 x0 : Nat) : Int) by unfold rdle; omega)
theorem skA_one {l : List (List Nat × List Nat)} {key : List Nat} {n m : Nat} (h : SkA l key n) (k : SkA l key m) : n = m := by
 have aux : ∀ {a b : Nat}, SkA l key a → SkA l key b → ¬ a < b := fun {a b} h k hlt => by
  have hl := k.le
  have hx : l[a]? = some l[a] := List.getElem?_eq_getElem (by omega)
  have h1 := h.hi a _ hx (Nat.le_refl _)
  have h2 := k.lo a _ hx hlt
  omega
 have := aux h k
 have := aux k h
 omega
set_option maxRecDepth 100000 in
set_option maxHeartbeats 2000000 in
theorem refSeek5_any {W : World} {a ak : Option Addr} {cap kn kc : Nat} {l : List EntD} {key : List Nat} (hr : RdL5 W a cap l) (hc : ∀ e ∈ l, checkS e = 0) (hup : Up [] (kvL l)) (hkey : Rd W (.slice ak kn kc) key) (hl : l.length ≤ 131072) :
  Calls Tryz.prog 31 #[.slice a l.length cap, .slice ak kn kc] W fun x w' => (∃ n : Nat, x = .returned (.int .i64 (n : Int)) ∧ SkA (kvL l) key n) ∧ Below W.heap.size W w' := by
 obtain ⟨N, hN⟩ : ∃ N, N = l.length := ⟨_, rfl⟩
 rw [← hN]
 have hN17 : N ≤ 131072 := by omega
 have HN := Lib.hid hN
 have HR := Lib.hid hr
 have HC := Lib.hid (And.intro hc hup)
 have HK := Lib.hid hkey
 clear hN hr hl hc hup hkey
 go_enter Tryz.func31, Tryz.ntmps31
 go_wp2
 go_loopw [5, 6, 7] (fun iv _ _ wr => ∃ (k : Nat), k ≤ N ∧ iv = .int .i64 (k : Int) ∧ Hid (Below W.heap.size W wr ∧ ∀ x kv, x < k → (kvL l)[x]? = some kv → ordC kv.1 key < 0)) (fun iv _ _ _ => N - (intOf iv).toNat)
 case atStart => exact ⟨0, Nat.zero_le _, rfl, Below.refl _ _, fun x kv hx => by omega⟩
 case round =>
  obtain ⟨k, hk, rfl, HU⟩ := hrel
  have k0 : (0 : Int) ≤ (k : Int) := by omega
  by_cases hlt : k < N
  ·have hlt2 : (k : Int) < (N : Int) := by omega
   have hl2 : k < l.length := by rw [← HN.out]; exact hlt
   obtain ⟨e, he⟩ : ∃ e, l[k]? = some e := ⟨l[k], List.getElem?_eq_getElem hl2⟩
   have hrd := HR.out.later HU.out.1
   have hem := List.mem_of_getElem? he
   have hok := hrd.ok e hem
   obtain ⟨b, off, rfl, d0, d1, d2, d3, d4, d5, d6⟩ := hrd.cel he
   have hce0 := HC.out.1 e hem
   obtain ⟨_, p1, q1, e1, -⟩ := hok.1
   obtain ⟨_, p2, q2, e2, -⟩ := hok.2.1
   obtain ⟨_, p3, q3, e3, -⟩ := hok.2.2
   have hce : e.cells = #[.slice p1 e.row.length q1, .int .i64 e.fam, .slice p2 e.qual.length q2, .int .i64 e.ts, .int .i64 e.seq, .int .i64 e.kind, .slice p3 e.val.length q3] := by unfold EntD.cells; rw [e1, e2, e3]
   obtain ⟨z1, hz1⟩ : ∃ z, z = e.row.length := ⟨_, rfl⟩
   obtain ⟨z2, hz2⟩ : ∃ z, z = e.qual.length := ⟨_, rfl⟩
   obtain ⟨z3, hz3⟩ : ∃ z, z = e.val.length := ⟨_, rfl⟩
   rw [e1, ← hz1] at d0
   rw [e2, ← hz2] at d2
   rw [e3, ← hz3] at d6
   rw [← hz1, ← hz2, ← hz3] at hce
   obtain ⟨K, hKK⟩ : ∃ K, keyL e = K := ⟨_, rfl⟩
   have HKy : Hid (Calls Tryz.prog 35 #[.agg #[.slice p1 z1 q1, .int .i64 e.fam, .slice p2 z2 q2, .int .i64 e.ts, .int .i64 e.seq, .int .i64 e.kind, .slice p3 z3 q3]] wr fun r w' => ∃ a m c, r = .returned (.tuple #[.slice a m c, .int .i64 0]) ∧ Own w' wr.heap.size (.slice a m c) m K ∧ Below wr.heap.size wr w') := by
    have h := refKey_ok hok hce0
    rw [hce, hKK] at h
    exact h
   have hKb : Bys (keyL e) := keyL_bys hok.1.1 hok.2.1.1 hce0
   have hKl := keyL_len hce0
   rw [hKK] at hKb hKl
   have hkv : (kvL l)[k]? = some (K, e.val) := by rw [← hKK]; unfold kvL; rw [List.getElem?_map, he]; rfl
   have HKv := Lib.hid (And.intro hkv (And.intro hKb hKl))
   clear hrd hok hem he hce0 e1 e2 e3 hz1 hz2 hz3 hce hKK hKb hKl hkv hl2
   go_wp2_with fail
   refine HKy.out.mono ?_
   rintro z X1 ⟨a1, m1, c1, rfl, own1, b1⟩
   have HB1 := Lib.hid (HU.out.1.trans (b1.mono HU.out.1.size))
   have HCm : Hid (Calls Tryz.prog 72 #[.slice a1 m1 c1, .slice ak kn kc] X1 fun e w' => e = .returned (.int .i64 (ordC K key)) ∧ Below X1.heap.size X1 w') := refBytesOrd_any (own1.rd HKv.out.2.1 (by have := own1.1; have := HKv.out.2.2; omega)) (HK.out.later HB1.out)
   clear own1 b1 HKy d0 d1 d2 d3 d4 d5 d6
   go_wp2_with fail
   refine HCm.out.mono ?_
   rintro z X2 ⟨rfl, b2⟩
   have HB2 := Lib.hid (HB1.out.trans (b2.mono HB1.out.size))
   clear b2 HCm HB1
   by_cases ho : 0 ≤ ordC K key
   ·have HEnd : Hid (SkA (kvL l) key k) := ⟨by rw [kvL_len, ← HN.out]; exact hk, fun x kv hx hlt => HU.out.2 x kv hlt hx, fun x kv hx hge => up_hi HC.out.2 HKv.out.1 ho x kv hx hge⟩
    have ho1 : (0 : Int) ≤ ordC K key := ho
    go_wp2
    go_ret
    exact ⟨⟨k, rfl, HEnd.out⟩, HB2.out⟩
   ·have ho1 : ¬ (0 : Int) ≤ ordC K key := ho
    have HNx : Hid (∀ x kv, x < k + 1 → (kvL l)[x]? = some kv → ordC kv.1 key < 0) := fun x kv hx hkv => by
     by_cases hxk : x = k
     ·subst hxk
      rw [HKv.out.1] at hkv
      cases hkv
      show ordC K key < 0
      omega
     ·exact HU.out.2 x kv (by omega) hkv
    go_wp2
    go_roundw
    case rel => exact ⟨k + 1, by omega, by go_num, HB2.out, HNx.out⟩
    case measure => simp [intOf]; omega
  ·have hge : ¬ (k : Int) < (N : Int) := by omega
   obtain rfl : k = N := by omega
   have HEnd : Hid (SkA (kvL l) key k) := ⟨by rw [kvL_len, ← HN.out]; exact Nat.le_refl _, fun x kv hx hlt => HU.out.2 x kv hlt hx, fun x kv hx hge => by have := (List.getElem?_eq_some_iff.1 hx).1; rw [kvL_len] at this; have := HN.out; omega⟩
   go_wp2
   go_ret
   exact ⟨⟨k, rfl, HEnd.out⟩, HU.out.1⟩
end Go.Proofs.YtchebhafabhabaaGreatDoor

namespace Go.Proofs.YtchebhafabhabaaGreatDoor
open Go.RowKit Go.Shelf
set_option linter.unusedVariables false

theorem bld_of {r : Nat} : ∀ (l : List EntD) (s : Bs), (∀ e ∈ l, checkS e = 0) → Up s.la (kvL l) → (foldB r s (kvL l)).es.length + (foldB r s (kvL l)).ps.length + 9 ≤ 131072 → bldS r s l = (0, foldB r s (kvL l))
 | [], s, hc, hu, hs => rfl
 | e :: t, s, hc, hu, hs => by
  have hs' : (foldB r (addB r s (keyL e) e.val) (kvL t)).es.length + (foldB r (addB r s (keyL e) e.val) (kvL t)).ps.length + 9 ≤ 131072 := hs
  obtain ⟨m1, h1⟩ := foldB_es r (kvL t) (addB r s (keyL e) e.val)
  obtain ⟨m2, h2⟩ := foldB_ps r (kvL t) (addB r s (keyL e) e.val)
  have hf : fullB r s (keyL e) e.val = false := by
   unfold fullB
   rw [decide_eq_false_iff_not]
   have e1 : (addB r s (keyL e) e.val).es = esOf r s (keyL e) e.val := rfl
   have e2 : (addB r s (keyL e) e.val).ps = psOf r s := rfl
   rw [h1, h2, e1, e2, List.length_append, List.length_append] at hs'
   omega
  have ho : ¬ ordC (keyL e) s.la ≤ 0 := by
   have := hu.1
   have h3 := ordC_swap (keyL e) s.la
   simp only at this
   omega
  have ha := addE_good (hc e (by simp)) ho hf
  simp only [bldS]
  rw [ha]
  simp only [if_true]
  rw [bld_of t (addB r s (keyL e) e.val) (fun x hx => hc x (by simp [hx])) hu.2 hs']
  rfl
theorem rfr_lay {r : Nat} (kv : List Nat × List Nat) (t : List (List Nat × List Nat)) (s : Bs) (E : List Nat) (hE : E = (foldB r s (kv :: t)).es) (hla : s.la.length ≤ s.es.length) (hl : E.length < 18446744073709551616) (hk : IsKey kv.1) :
  RfR E s.es.length s.la kv.1 kv.2 (addB r s kv.1 kv.2).es.length := by
 obtain ⟨c1, c2, c3⟩ := com_la r s kv.1 kv.2 hla
 obtain ⟨m, hm⟩ := foldB_es r t (addB r s kv.1 kv.2)
 have hE2 : E = s.es ++ (recL (shOf r s kv.1) (kv.1.drop (shOf r s kv.1)) kv.2 ++ m) := by rw [hE]; simp only [foldB]; rw [hm]; simp [addB, esOf]
 obtain ⟨a, b, h1, h2, h3, h4, h5, h6⟩ := record_at s.es m (shOf r s kv.1) (kv.1.drop (shOf r s kv.1)) kv.2 (by simp; omega) (by rw [← hE2]; exact hl)
 rw [← hE2] at h1 h2 h3
 refine ⟨_, _, _, h1, c1, ?_, h3.symm, ?_, hk⟩
 ·simp only
  rw [h2]
  have : s.la.take (shOf r s kv.1) = kv.1.take (shOf r s kv.1) := by
   unfold shOf
   split
   ·simp
   ·exact com_take _ _
  rw [this, List.take_append_drop]
 ·simp only
  rw [h4]
  simp [addB, esOf]
theorem Blad.rfr {r : Nat} {l : List (List Nat × List Nat)} {E P : List Nat} (h : Blad r l E P) {i : Nat} {kv : List Nat × List Nat} (hi : l[i]? = some kv) :
  RfR E (foldB r Bs.zero (l.take i)).es.length (foldB r Bs.zero (l.take i)).la kv.1 kv.2 (foldB r Bs.zero (l.take (i + 1))).es.length := by
 have hl : l = l.take i ++ kv :: l.drop (i + 1) := by
  have hlt := (List.getElem?_eq_some_iff.1 hi).1
  have he : l[i] = kv := (List.getElem?_eq_some_iff.1 hi).2
  rw [← he, ← List.drop_eq_getElem_cons hlt, List.take_append_drop]
 rw [fold_next r hi]
 refine rfr_lay kv (l.drop (i + 1)) _ E ?_ (fold_la r _ _ (Nat.le_refl _)) (by have := h.size; omega) (h.ok kv (List.mem_of_getElem? hi)).1
 rw [h.es, ← foldB_app, ← hl]
theorem own_adr2 {w : World} {B m n c : Nat} {v : Value} {ad : Addr} {xs : List Nat} (h : Own w B v m xs) (e : v = .slice (some ad) n c) : B ≤ ad.block ∧ ad.block < w.heap.size := by
 rcases h.2.2 with ⟨h1, h2⟩ | ⟨g, cap, cur, h3, h4, h5, h6, h7, h8, h9⟩
 ·rw [e] at h1; cases h1
 ·rw [e] at h3
  simp only [Value.slice.injEq, Option.some.injEq] at h3
  rw [h3.1]
  exact ⟨h4, (Array.getElem?_eq_some_iff.1 h5).1⟩
theorem OwnD.adr2 {w : World} {B : Nat} {D : EntD} (h : OwnD w B D) : ∀ k, D.adr k → B ≤ k ∧ k < w.heap.size := by
 rintro k ⟨v, hv, ad, n, c, e, rfl⟩
 rcases hv with rfl | rfl | rfl
 ·exact own_adr2 h.r e
 ·exact own_adr2 h.q e
 ·exact own_adr2 h.v e
theorem row_same5 {w w' : World} {B ty n k : Nat} {v : Value} {xs : List Value} (h : w.ownsRow B ty k v n xs) (hs : ∀ g, v.ownBlock = some g → w'.heap[g]? = w.heap[g]?) : w'.ownsRow B ty k v n xs := by
 refine ⟨h.1, ?_⟩
 rcases h.2 with h2 | ⟨g, cap, cur, h3, h4, h5, h6⟩
 ·exact .inl h2
 ·exact .inr ⟨g, cap, cur, h3, h4, by rw [hs g (by rw [h3]; rfl)]; exact h5, h6⟩
theorem rowE_ne5 {w : World} {B B' n m : Nat} {v u : Value} {vs : List Value} {xs : List Nat} (hr : w.ownsRow B 40 7 v n vs) (ho : Own w B' u m xs) {k : Nat} (hv : v.ownBlock = some k) : u.ownBlock ≠ some k := by
 intro hu
 rcases hr.2 with ⟨h1, _⟩ | ⟨g, cap, cur, h1, h2, h3, _⟩
 ·rw [h1] at hv; cases hv
 ·rcases ho.2.2 with ⟨k1, _⟩ | ⟨g2, cap2, cur2, k1, k2, k3, _⟩
  ·rw [k1] at hu; cases hu
  ·rw [h1] at hv
   rw [k1] at hu
   cases hv
   cases hu
   rw [h3] at k3
   simp at k3
theorem Own.grownE5 {w w' : World} {B B' n m : Nat} {v u : Value} {vs : List Value} {xs : List Nat} (ho : Own w B' u m xs) (hr : w.ownsRow B 40 7 v n vs) (hg : w.grownBy w' v.ownBlock) : Own w' B' u m xs :=
 ho.fb (Fb.of_grown (O := fun k => v.ownBlock = some k) hg (fun i h => h)) (fun i hi hv => rowE_ne5 hr ho hv hi)
theorem rd_len5 {w : World} {v : Value} {bs : List Nat} (h : Rd w v bs) : bs.length ≤ 281474976710656 := by
 obtain ⟨a, n, c, rfl⟩ := rd_slice h
 have := rd_lens h
 omega
structure WantL (w : World) (B : Nat) (a : Option Addr) (cap : Nat) (xs : List EntD) : Prop where
 rd : RdL5 w a cap xs
 ck : ∀ e ∈ xs, checkS e = 0
 ad : ∀ k, adB a k → B ≤ k ∧ k < w.heap.size
 es : ∀ e ∈ xs, ∀ k, e.adr k → B ≤ k ∧ k < w.heap.size
structure Oz (W wr : World) (bs E : List Nat) (i p : Nat) (xs : List EntD) (vm vl : Value) (la : List Nat) : Prop where
 row : wr.ownsRow W.heap.size 40 7 vm xs.length (evals5 xs)
 ok : ∀ x ∈ xs, EntD.Ok wr x
 own : ∀ x ∈ xs, OwnD wr W.heap.size x
 len : xs.length = i
 last : Own wr W.heap.size vl la.length la
 bys : Bys la
 lap : la.length ≤ p
 le : p ≤ E.length
 bel : Below W.heap.size W wr
 fact : opE bs = 0 → (∀ x ∈ xs, checkS x = 0) ∧ ∃ kv, Blad (rstOf bs) kv E (placesOf5 bs) ∧ kv.length = cntOf bs ∧ kvL xs = kv.take i ∧ la = (foldB (rstOf bs) Bs.zero (kv.take i)).la ∧ p = (foldB (rstOf bs) Bs.zero (kv.take i)).es.length
theorem Oz.start {W : World} {bs : List Nat} (hb : Bys bs) : Oz W W bs (entsOf bs) 0 0 [] (.slice none 0 0) (.slice none 0 0) [] :=
 ⟨World.ownsRow_nil _ _ _ _, (fun x hx => by cases hx), (fun x hx => by cases hx), rfl, ownNil _ _, (fun x hx => by cases hx), Nat.le_refl _, Nat.zero_le _, Below.refl _ _, fun h => ⟨(fun x hx => by cases hx), by
  obtain ⟨l, h1, h2, h3⟩ := opE_blad hb h
  exact ⟨l, h1, h2, rfl, rfl, rfl⟩⟩⟩
theorem Oz.stop {W wr : World} {bs E : List Nat} {i p : Nat} {xs : List EntD} {vm vl : Value} {la : List Nat} (h : Oz W wr bs E i p xs vm vl la) (hi : i < cntOf bs) (hn : ∀ key val p', ¬ RfR E p la key val p') : opE bs ≠ 0 := fun h0 => by
 obtain ⟨-, kv, h1, h2, h3, h4, h5⟩ := h.fact h0
 obtain ⟨x, hx⟩ : ∃ x, kv[i]? = some x := ⟨_, List.getElem?_eq_getElem (by omega)⟩
 have := h1.rfr hx
 rw [← h4, ← h5] at this
 exact hn _ _ _ this
theorem Oz.next {W wr w1 w2 : World} {bs E : List Nat} {i p p' : Nat} {xs : List EntD} {vm vl vm' vl' : Value} {la : List Nat} {D : EntD} (h : Oz W wr bs E i p xs vm vl la) (hi : i < cntOf bs) (b1 : Below wr.heap.size wr w1) (hr : RfR E p la (keyL D) D.val p') (hck : checkS D = 0 ↔ okIt (keyL D) D.val)
  (hkey : Own w1 wr.heap.size vl' (keyL D).length (keyL D)) (hkb : Bys (keyL D)) (hok : EntD.Ok w1 D) (hown : OwnD w1 wr.heap.size D)
  (row1 : w1.ownsRow W.heap.size 40 7 vm xs.length (evals5 xs)) (row2 : w2.ownsRow W.heap.size 40 7 vm' (xs ++ [D]).length (evals5 (xs ++ [D]))) (hg : w1.grownBy w2 vm.ownBlock) : Oz W w2 bs E (i + 1) p' (xs ++ [D]) vm' vl' (keyL D) := by
 have hW := h.bel.size
 have hle := rfr_le h.le h.lap hr
 have oD : ∀ x ∈ xs ++ [D], EntD.Ok w2 x ∧ OwnD w2 W.heap.size x := by
  intro x hx
  have hx1 : EntD.Ok w1 x ∧ OwnD w1 W.heap.size x := by
   rcases List.mem_append.1 hx with hx | hx
   ·exact ⟨(h.ok x hx).later b1, (h.own x hx).later b1⟩
   ·rw [List.mem_singleton] at hx
    rw [hx]
    exact ⟨hok, hown.mono hW⟩
  have o2 : OwnD w2 W.heap.size x := ⟨hx1.2.r.grownE5 row1 hg, hx1.2.q.grownE5 row1 hg, hx1.2.v.grownE5 row1 hg⟩
  have l1 := (rd_len5 hx1.1.1)
  have l2 := (rd_len5 hx1.1.2.1)
  have l3 := (rd_len5 hx1.1.2.2)
  exact ⟨⟨o2.r.rd hx1.1.1.1 l1, o2.q.rd hx1.1.2.1.1 l2, o2.v.rd hx1.1.2.2.1 l3⟩, o2⟩
 refine ⟨row2, fun x hx => (oD x hx).1, fun x hx => (oD x hx).2, by simp [h.len], (hkey.mono hW).grownE5 row1 hg, hkb, hle.2.2, hle.2.1, ?_, fun h0 => ?_⟩
 ·have b01 := h.bel.trans (b1.mono hW)
  exact b01.grown hg b01.size (fun g hg => (row1.lt g hg).1)
 ·obtain ⟨hc, kv, h1, h2, h3, h4, h5⟩ := h.fact h0
  obtain ⟨x, hx⟩ : ∃ x, kv[i]? = some x := ⟨_, List.getElem?_eq_getElem (by omega)⟩
  have hx1 := h1.rfr hx
  rw [← h4, ← h5] at hx1
  obtain ⟨e1, e2, e3⟩ := rfr_one hr hx1
  have hD : checkS D = 0 := hck.2 (by rw [e1, e2]; exact h1.ok x (List.mem_of_getElem? hx))
  have hxe : x = (keyL D, D.val) := Prod.ext e1.symm e2.symm
  refine ⟨?_, kv, h1, h2, ?_, ?_, e3⟩
  ·intro y hy
   rcases List.mem_append.1 hy with hy | hy
   ·exact hc y hy
   ·rw [List.mem_singleton] at hy; rw [hy]; exact hD
  ·rw [take_next hx, ← h3, hxe]
   simp [kvL]
  ·rw [fold_next _ hx, ← e1]
   rfl
theorem Oz.built {W wr : World} {bs : List Nat} {p : Nat} {xs : List EntD} {vm vl : Value} {la : List Nat} (h : Oz W wr bs (entsOf bs) (cntOf bs) p xs vm vl la) (hb : Bys bs) (h0 : opE bs = 0) :
  (bldS (rstOf bs) Bs.zero xs).1 = 0 ∧ blockL (bldS (rstOf bs) Bs.zero xs).2.es (bldS (rstOf bs) Bs.zero xs).2.ps xs.length (rstOf bs) = bs ∧ Blad (rstOf bs) (kvL xs) (entsOf bs) (placesOf5 bs) ∧ ∀ x ∈ xs, checkS x = 0 := by
 obtain ⟨hc, kv, h1, h2, h3, h4, h5⟩ := h.fact h0
 rw [List.take_of_length_le (by omega)] at h3
 rw [← h3] at h1
 obtain ⟨l, q1, q2, q3⟩ := opE_blad hb h0
 have hs := h1.size
 rw [h1.es, h1.ps] at hs
 have e := bld_of (r := rstOf bs) xs Bs.zero hc h1.up hs
 refine ⟨by rw [e], ?_, h1, hc⟩
 rw [e, ← h1.es, ← h1.ps, h.len, ← q2]
 exact q3.symm
theorem opens_of {bs : List Nat} {r : Nat} {xs : List EntD} (h1 : 1 ≤ r) (h16 : r ≤ 16) (h : (bldS r Bs.zero xs).1 = 0) (hl : xs ≠ []) (he : blockL (bldS r Bs.zero xs).2.es (bldS r Bs.zero xs).2.ps xs.length r = bs) : opE bs = 0 := by
 have := (laid_of h1 h16 h hl).opens
 rw [kvL_len, he] at this
 exact this.1
end Go.Proofs.YtchebhafabhabaaGreatDoor
