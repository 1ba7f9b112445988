import Derived.Test.YtchebhafabhabaaGreatDoorK19
namespace Go.Proofs.YtchebhafabhabaaGreatDoor
open Go.RowKit Go.Shelf
set_option linter.unusedVariables false

theorem two_boxes5 (w : World) : EBox ((w.alloc (.cells #[.slice none 0 0, .int .i64 0, .slice none 0 0, .int .i64 0, .int .i64 0, .int .i64 0, .slice none 0 0] 40)).alloc (.cells #[.slice none 0 0, .int .i64 0, .slice none 0 0, .int .i64 0, .int .i64 0, .int .i64 0, .slice none 0 0] 40)) w.heap.size ⟨.slice none 0 0, 0, .slice none 0 0, 0, 0, 0, .slice none 0 0, [], [], []⟩ ∧ EBox ((w.alloc (.cells #[.slice none 0 0, .int .i64 0, .slice none 0 0, .int .i64 0, .int .i64 0, .int .i64 0, .slice none 0 0] 40)).alloc (.cells #[.slice none 0 0, .int .i64 0, .slice none 0 0, .int .i64 0, .int .i64 0, .int .i64 0, .slice none 0 0] 40)) (w.heap.size + 1) ⟨.slice none 0 0, 0, .slice none 0 0, 0, 0, 0, .slice none 0 0, [], [], []⟩ ∧ Below w.heap.size w ((w.alloc (.cells #[.slice none 0 0, .int .i64 0, .slice none 0 0, .int .i64 0, .int .i64 0, .int .i64 0, .slice none 0 0] 40)).alloc (.cells #[.slice none 0 0, .int .i64 0, .slice none 0 0, .int .i64 0, .int .i64 0, .int .i64 0, .slice none 0 0] 40)) ∧ ((w.alloc (.cells #[.slice none 0 0, .int .i64 0, .slice none 0 0, .int .i64 0, .int .i64 0, .int .i64 0, .slice none 0 0] 40)).alloc (.cells #[.slice none 0 0, .int .i64 0, .slice none 0 0, .int .i64 0, .int .i64 0, .int .i64 0, .slice none 0 0] 40)).heap.size = w.heap.size + 2 := by
  refine ⟨(EBox.new w ⟨.slice none 0 0, 0, .slice none 0 0, 0, 0, 0, .slice none 0 0, [], [], []⟩).later ((Below.refl _ _).alloc (Nat.le_refl _) _), ?_, ((Below.refl w.heap.size w).alloc (Nat.le_refl _) _).alloc (by simp) _, by simp⟩
  have h := EBox.new (w.alloc (.cells #[.slice none 0 0, .int .i64 0, .slice none 0 0, .int .i64 0, .int .i64 0, .int .i64 0, .slice none 0 0] 40)) ⟨.slice none 0 0, 0, .slice none 0 0, 0, 0, 0, .slice none 0 0, [], [], []⟩
  rwa [World.size_alloc] at h
set_option maxRecDepth 100000 in
set_option maxHeartbeats 16000000 in
theorem refEntry5_any {w : World} {ae al : Option Addr} {ne ce nl cl B0 : Nat} {E last : List Nat} (hE : Rd w (.slice ae ne ce) E) (hoL : Own w B0 (.slice al nl cl) nl last) (hbL : Bys last) (p : Nat) (hp : p ≤ E.length) (hla : last.length ≤ p) (h17 : E.length ≤ 131072) :
    Calls Tryz.prog 68 #[.slice ae ne ce, .int .i64 (p : Int), .slice al nl cl] w fun x w' => REp w E p last x w' := by
  have hform : (al = none ∧ nl = 0 ∧ cl = 0 ∧ last = []) ∨ ∃ g, al = some ⟨g, 0, none⟩ := by
    have hl := hoL.1
    rcases hoL.2.2 with ⟨h1, h2⟩ | ⟨g, cap, cur, h3, h4⟩
    · simp only [Value.slice.injEq] at h1
      exact .inl ⟨h1.1, h1.2.1, h1.2.2, List.eq_nil_of_length_eq_zero (by omega)⟩
    · simp only [Value.slice.injEq] at h3
      exact .inr ⟨g, h3.1⟩
  have hL : Rd w (.slice al nl cl) last := hoL.rd hbL (by have := hoL.1; omega)
  have HForm := Lib.hid hform
  clear hform hoL hbL
  obtain ⟨hBG, hBN, hA1, hsX⟩ := two_boxes5 w
  obtain ⟨X, hX⟩ : ∃ X, X = (w.alloc (.cells #[.slice none 0 0, .int .i64 0, .slice none 0 0, .int .i64 0, .int .i64 0, .int .i64 0, .slice none 0 0] 40)).alloc (.cells #[.slice none 0 0, .int .i64 0, .slice none 0 0, .int .i64 0, .int .i64 0, .int .i64 0, .slice none 0 0] 40) := ⟨_, rfl⟩
  rw [← hX] at hBG hBN hA1 hsX
  have HX := Lib.hid hX
  have BG := Lib.hid hBG
  have BN := Lib.hid hBN
  have HB := Lib.hid hA1
  have hne : ne = E.length := (rd_lens hE).1
  have hnl : nl = last.length := (rd_lens hL).1
  obtain ⟨V, P, Er, hu⟩ : ∃ V P Er, uintR E p = (V, P, Er) := ⟨_, _, _, rfl⟩
  have HE := Lib.hid hE
  have HL := Lib.hid hL
  have HNE := Lib.hid (And.intro hne (And.intro hnl (And.intro hp (And.intro hla h17))))
  have HU := Lib.hid hu
  have hne17 : ne ≤ 131072 := by omega
  have hnl17 : nl ≤ 131072 := by omega
  have HC1 := Lib.hid (refReadUint_at (hE.later hA1) (p : Int) p rfl hp hu)
  clear hX hBG hBN hA1 hE hL hu hne hnl hp hla h17
  go_enter Tryz.func68, Tryz.ntmps68
  go_wp2_with fail
  rw [← HX.out]
  clear HX
  refine HC1.out.mono ?_
  rintro e1 w1 ⟨rfl, rfl⟩
  clear HC1
  by_cases hE1 : Er = 0
  case neg =>
    have h1 : ¬ ((Er : Int) = 0) := by omega
    have h0 : ((Er : Int) != 0) = true := by simp; omega
    obtain ⟨g0, g1, g2, g3, g4, g5, g6⟩ := BG.out.cells7
    obtain ⟨gf0, gf1, gf2, gf3, gf4, gf5, gf6⟩ := BG.out.fz7b
    obtain ⟨m0, m1, m2, m3, m4, m5, m6⟩ := BN.out.cells7
    simp only at g0 g1 g2 g3 g4 g5 g6 m0 m1 m2 m3 m4 m5 m6
    have HDN : Hid (EBox (filled w1 w.heap.size ⟨.slice none 0 0, 0, .slice none 0 0, 0, 0, 0, .slice none 0 0, [], [], []⟩) w.heap.size ⟨.slice none 0 0, 0, .slice none 0 0, 0, 0, 0, .slice none 0 0, [], [], []⟩ ∧ Below w.heap.size w (filled w1 w.heap.size ⟨.slice none 0 0, 0, .slice none 0 0, 0, 0, 0, .slice none 0 0, [], [], []⟩)) := ⟨filled_box BG.out ⟨.slice none 0 0, 0, .slice none 0 0, 0, 0, 0, .slice none 0 0, [], [], []⟩, HB.out.trans ((filled_apart w1 w.heap.size ⟨.slice none 0 0, 0, .slice none 0 0, 0, 0, 0, .slice none 0 0, [], [], []⟩).below (Nat.le_refl _) HB.out.size)⟩
    simp only [filled] at HDN
    have HWhy : Hid (∀ key val p', ¬ RfR E p last key val p') := by
      intro key val p' h; obtain ⟨V', P', L1, p2, k1, -⟩ := rfr_un HNE.out.2.2.1 h; rw [HU.out] at k1; simp only [Prod.mk.injEq] at k1; exact hE1 k1.2.2
    go_wp2
    obtain ⟨fb, bw⟩ := HDN.out
    clear HDN
    generalize (((((((w1.setCell ⟨w.heap.size, 0, none⟩ (.slice none 0 0)).setCell ⟨w.heap.size, 1, none⟩ (.int .i64 0)).setCell ⟨w.heap.size, 2, none⟩ (.slice none 0 0)).setCell ⟨w.heap.size, 3, none⟩ (.int .i64 0)).setCell ⟨w.heap.size, 4, none⟩ (.int .i64 0)).setCell ⟨w.heap.size, 5, none⟩ (.int .i64 0)).setCell ⟨w.heap.size, 6, none⟩ (.slice none 0 0)) = wz at fb bw ⊢
    obtain ⟨t0, t1, t2, t3, t4, t5, t6⟩ := fb.cells7
    simp only at t0 t1 t2 t3 t4 t5 t6
    (try simp only [Exit.inBlock, Exit.then])
    refine bodyPost_ret (v := .tuple #[.agg #[.slice none 0 0, .int .i64 0, .slice none 0 0, .int .i64 0, .int .i64 0, .int .i64 0, .slice none 0 0], .slice none 0 0, .int .i64 0, .bool false]) ?hres rfl ?_
    case hres => simp [results, Tryz.results68, go_sem, t0, t1, t2, t3, t4, t5, t6]
    exact ⟨bw, .inl ⟨HWhy.out, rfl⟩⟩
  subst hE1
  have hcv : IntKind.u64.wrap (nl : Int) = (nl : Int) := IntWalk.u64_in _ ⟨by omega, by omega⟩
  by_cases hVl : V ≤ nl
  case neg =>
    have h1 : (nl : Int) < (V : Int) := by omega
    obtain ⟨g0, g1, g2, g3, g4, g5, g6⟩ := BG.out.cells7
    obtain ⟨gf0, gf1, gf2, gf3, gf4, gf5, gf6⟩ := BG.out.fz7b
    obtain ⟨m0, m1, m2, m3, m4, m5, m6⟩ := BN.out.cells7
    simp only at g0 g1 g2 g3 g4 g5 g6 m0 m1 m2 m3 m4 m5 m6
    have HDN : Hid (EBox (filled w1 w.heap.size ⟨.slice none 0 0, 0, .slice none 0 0, 0, 0, 0, .slice none 0 0, [], [], []⟩) w.heap.size ⟨.slice none 0 0, 0, .slice none 0 0, 0, 0, 0, .slice none 0 0, [], [], []⟩ ∧ Below w.heap.size w (filled w1 w.heap.size ⟨.slice none 0 0, 0, .slice none 0 0, 0, 0, 0, .slice none 0 0, [], [], []⟩)) := ⟨filled_box BG.out ⟨.slice none 0 0, 0, .slice none 0 0, 0, 0, 0, .slice none 0 0, [], [], []⟩, HB.out.trans ((filled_apart w1 w.heap.size ⟨.slice none 0 0, 0, .slice none 0 0, 0, 0, 0, .slice none 0 0, [], [], []⟩).below (Nat.le_refl _) HB.out.size)⟩
    simp only [filled] at HDN
    have HWhy : Hid (∀ key val p', ¬ RfR E p last key val p') := by
      intro key val p' h; obtain ⟨V', P', L1, p2, k1, k2, -⟩ := rfr_un HNE.out.2.2.1 h; rw [HU.out] at k1; simp only [Prod.mk.injEq] at k1; have := HNE.out.2.1; omega
    go_wp2
    obtain ⟨fb, bw⟩ := HDN.out
    clear HDN
    generalize (((((((w1.setCell ⟨w.heap.size, 0, none⟩ (.slice none 0 0)).setCell ⟨w.heap.size, 1, none⟩ (.int .i64 0)).setCell ⟨w.heap.size, 2, none⟩ (.slice none 0 0)).setCell ⟨w.heap.size, 3, none⟩ (.int .i64 0)).setCell ⟨w.heap.size, 4, none⟩ (.int .i64 0)).setCell ⟨w.heap.size, 5, none⟩ (.int .i64 0)).setCell ⟨w.heap.size, 6, none⟩ (.slice none 0 0)) = wz at fb bw ⊢
    obtain ⟨t0, t1, t2, t3, t4, t5, t6⟩ := fb.cells7
    simp only at t0 t1 t2 t3 t4 t5 t6
    (try simp only [Exit.inBlock, Exit.then])
    refine bodyPost_ret (v := .tuple #[.agg #[.slice none 0 0, .int .i64 0, .slice none 0 0, .int .i64 0, .int .i64 0, .int .i64 0, .slice none 0 0], .slice none 0 0, .int .i64 0, .bool false]) ?hres rfl ?_
    case hres => simp [results, Tryz.results68, go_sem, t0, t1, t2, t3, t4, t5, t6]
    exact ⟨bw, .inl ⟨HWhy.out, rfl⟩⟩
  have hVl1 : ¬ (nl : Int) < (V : Int) := by omega
  have hVl2 : (V : Int) ≤ (nl : Int) := by omega
  have hok0 := uintR_ok HU.out HNE.out.2.2.1
  obtain ⟨L1, p2, E2, hq2⟩ : ∃ L1 p2 E2, bytesR E P ne = (L1, p2, E2) := ⟨_, _, _, rfl⟩
  have HC2 : Hid (Calls Tryz.prog 98 #[.slice ae ne ce, .int .i64 (P : Int), .int .i64 (ne : Int)] w1 fun e w' => ∃ a m c, e = .returned (.tuple #[.slice a m c, .int .i64 (p2 : Int), .int .i64 (E2 : Int)]) ∧ Own w' w1.heap.size (.slice a m c) m L1 ∧ Below w1.heap.size w1 w') := by
    have h := refReadBytes_in (HE.out.later HB.out) P ne hok0.2.1 (by omega) (by have := HNE.out.2.2.2.2; omega)
    rw [hq2] at h
    exact h
  have HQ2 := Lib.hid hq2
  have HP := Lib.hid hok0
  clear hq2 hok0
  go_wp2_with fail
  refine HC2.out.mono ?_
  rintro e2 w2 ⟨a1, m1, c1, rfl, own1, b2⟩
  have HO1 := Lib.hid own1
  have BG := Lib.hid (BG.out.later b2)
  have BN := Lib.hid (BN.out.later b2)
  have HBo := Lib.hid HB.out
  have HB := Lib.hid (HB.out.trans (b2.mono HB.out.size))
  clear own1 HC2
  by_cases hE2 : E2 = 0
  case neg =>
    have h1 : ¬ ((E2 : Int) = 0) := by omega
    clear b2
    obtain ⟨g0, g1, g2, g3, g4, g5, g6⟩ := BG.out.cells7
    obtain ⟨gf0, gf1, gf2, gf3, gf4, gf5, gf6⟩ := BG.out.fz7b
    obtain ⟨m0, m1, m2, m3, m4, m5, m6⟩ := BN.out.cells7
    simp only at g0 g1 g2 g3 g4 g5 g6 m0 m1 m2 m3 m4 m5 m6
    have HDN : Hid (EBox (filled w2 w.heap.size ⟨.slice none 0 0, 0, .slice none 0 0, 0, 0, 0, .slice none 0 0, [], [], []⟩) w.heap.size ⟨.slice none 0 0, 0, .slice none 0 0, 0, 0, 0, .slice none 0 0, [], [], []⟩ ∧ Below w.heap.size w (filled w2 w.heap.size ⟨.slice none 0 0, 0, .slice none 0 0, 0, 0, 0, .slice none 0 0, [], [], []⟩)) := ⟨filled_box BG.out ⟨.slice none 0 0, 0, .slice none 0 0, 0, 0, 0, .slice none 0 0, [], [], []⟩, HB.out.trans ((filled_apart w2 w.heap.size ⟨.slice none 0 0, 0, .slice none 0 0, 0, 0, 0, .slice none 0 0, [], [], []⟩).below (Nat.le_refl _) HB.out.size)⟩
    simp only [filled] at HDN
    have HWhy : Hid (∀ key val p', ¬ RfR E p last key val p') := by
      intro key val p' h; obtain ⟨V', P', L1', p2', k1, k2, k3, -⟩ := rfr_un HNE.out.2.2.1 h; rw [HU.out] at k1; simp only [Prod.mk.injEq] at k1; obtain ⟨rfl, rfl, -⟩ := k1; rw [← HNE.out.1, HQ2.out] at k3; simp only [Prod.mk.injEq] at k3; exact hE2 k3.2.2
    go_wp2
    obtain ⟨fb, bw⟩ := HDN.out
    clear HDN
    generalize (((((((w2.setCell ⟨w.heap.size, 0, none⟩ (.slice none 0 0)).setCell ⟨w.heap.size, 1, none⟩ (.int .i64 0)).setCell ⟨w.heap.size, 2, none⟩ (.slice none 0 0)).setCell ⟨w.heap.size, 3, none⟩ (.int .i64 0)).setCell ⟨w.heap.size, 4, none⟩ (.int .i64 0)).setCell ⟨w.heap.size, 5, none⟩ (.int .i64 0)).setCell ⟨w.heap.size, 6, none⟩ (.slice none 0 0)) = wz at fb bw ⊢
    obtain ⟨t0, t1, t2, t3, t4, t5, t6⟩ := fb.cells7
    simp only at t0 t1 t2 t3 t4 t5 t6
    (try simp only [Exit.inBlock, Exit.then])
    refine bodyPost_ret (v := .tuple #[.agg #[.slice none 0 0, .int .i64 0, .slice none 0 0, .int .i64 0, .int .i64 0, .int .i64 0, .slice none 0 0], .slice none 0 0, .int .i64 0, .bool false]) ?hres rfl ?_
    case hres => simp [results, Tryz.results68, go_sem, t0, t1, t2, t3, t4, t5, t6]
    exact ⟨bw, .inl ⟨HWhy.out, rfl⟩⟩
  subst hE2
  have hb1 := bytes_back HE.out.1 HP.out.2.1 HQ2.out
  obtain ⟨L2, p3, E3, hq3⟩ : ∃ L2 p3 E3, bytesR E p2 ne = (L2, p3, E3) := ⟨_, _, _, rfl⟩
  have HC3 : Hid (Calls Tryz.prog 98 #[.slice ae ne ce, .int .i64 (p2 : Int), .int .i64 (ne : Int)] w2 fun e w' => ∃ a m c, e = .returned (.tuple #[.slice a m c, .int .i64 (p3 : Int), .int .i64 (E3 : Int)]) ∧ Own w' w2.heap.size (.slice a m c) m L2 ∧ Below w2.heap.size w2 w') := by
    have h := refReadBytes_in (HE.out.later HB.out) p2 ne hb1.2.2.1 (by omega) (by have := HNE.out.2.2.2.2; omega)
    rw [hq3] at h
    exact h
  have HQ3 := Lib.hid hq3
  have HP2 := Lib.hid hb1
  have hs2 : w1.heap.size ≤ w2.heap.size := b2.size
  clear hq3 hb1 b2
  go_wp2_with fail
  refine HC3.out.mono ?_
  rintro e3 w3 ⟨a2, m2, c2, rfl, own2, b3⟩
  have HO1 := Lib.hid (HO1.out.later b3)
  have HO2 := Lib.hid own2
  have BG := Lib.hid (BG.out.later b3)
  have BN := Lib.hid (BN.out.later b3)
  have HB := Lib.hid (HB.out.trans (b3.mono HB.out.size))
  have hs3 : w2.heap.size ≤ w3.heap.size := b3.size
  clear own2 HC3
  by_cases hE3 : E3 = 0
  case neg =>
    have h1 : ¬ ((E3 : Int) = 0) := by omega
    clear b3
    obtain ⟨g0, g1, g2, g3, g4, g5, g6⟩ := BG.out.cells7
    obtain ⟨gf0, gf1, gf2, gf3, gf4, gf5, gf6⟩ := BG.out.fz7b
    obtain ⟨m0, m1, m2, m3, m4, m5, m6⟩ := BN.out.cells7
    simp only at g0 g1 g2 g3 g4 g5 g6 m0 m1 m2 m3 m4 m5 m6
    have HDN : Hid (EBox (filled w3 w.heap.size ⟨.slice none 0 0, 0, .slice none 0 0, 0, 0, 0, .slice none 0 0, [], [], []⟩) w.heap.size ⟨.slice none 0 0, 0, .slice none 0 0, 0, 0, 0, .slice none 0 0, [], [], []⟩ ∧ Below w.heap.size w (filled w3 w.heap.size ⟨.slice none 0 0, 0, .slice none 0 0, 0, 0, 0, .slice none 0 0, [], [], []⟩)) := ⟨filled_box BG.out ⟨.slice none 0 0, 0, .slice none 0 0, 0, 0, 0, .slice none 0 0, [], [], []⟩, HB.out.trans ((filled_apart w3 w.heap.size ⟨.slice none 0 0, 0, .slice none 0 0, 0, 0, 0, .slice none 0 0, [], [], []⟩).below (Nat.le_refl _) HB.out.size)⟩
    simp only [filled] at HDN
    have HWhy : Hid (∀ key val p', ¬ RfR E p last key val p') := by
      intro key val p' h; obtain ⟨V', P', L1', p2', k1, k2, k3, k4, -⟩ := rfr_un HNE.out.2.2.1 h; rw [HU.out] at k1; simp only [Prod.mk.injEq] at k1; obtain ⟨rfl, rfl, -⟩ := k1; rw [← HNE.out.1, HQ2.out] at k3; simp only [Prod.mk.injEq] at k3; obtain ⟨rfl, rfl, -⟩ := k3; rw [← HNE.out.1, HQ3.out] at k4; simp only [Prod.mk.injEq] at k4; exact hE3 k4.2.2
    go_wp2
    obtain ⟨fb, bw⟩ := HDN.out
    clear HDN
    generalize (((((((w3.setCell ⟨w.heap.size, 0, none⟩ (.slice none 0 0)).setCell ⟨w.heap.size, 1, none⟩ (.int .i64 0)).setCell ⟨w.heap.size, 2, none⟩ (.slice none 0 0)).setCell ⟨w.heap.size, 3, none⟩ (.int .i64 0)).setCell ⟨w.heap.size, 4, none⟩ (.int .i64 0)).setCell ⟨w.heap.size, 5, none⟩ (.int .i64 0)).setCell ⟨w.heap.size, 6, none⟩ (.slice none 0 0)) = wz at fb bw ⊢
    obtain ⟨t0, t1, t2, t3, t4, t5, t6⟩ := fb.cells7
    simp only at t0 t1 t2 t3 t4 t5 t6
    (try simp only [Exit.inBlock, Exit.then])
    refine bodyPost_ret (v := .tuple #[.agg #[.slice none 0 0, .int .i64 0, .slice none 0 0, .int .i64 0, .int .i64 0, .int .i64 0, .slice none 0 0], .slice none 0 0, .int .i64 0, .bool false]) ?hres rfl ?_
    case hres => simp [results, Tryz.results68, go_sem, t0, t1, t2, t3, t4, t5, t6]
    exact ⟨bw, .inl ⟨HWhy.out, rfl⟩⟩
  subst hE3
  have hb2 := bytes_back HE.out.1 HP2.out.2.2.1 HQ3.out
  have HP3 := Lib.hid hb2
  have hbL1 := bytesR_bys HE.out.1 HQ2.out
  have hL1l : L1.length ≤ 131072 := by have := HP2.out.2.2.2; have := HNE.out.2.2.2.2; omega
  have hL2l : L2.length ≤ 131072 := by have := HP3.out.2.2.2; have := HNE.out.2.2.2.2; omega
  have hm1 : m1 ≤ 131072 := by have := HO1.out.1; omega
  have HL1 : Hid (Rd w3 (.slice a1 m1 c1) L1) := HO1.out.rd hbL1 (by omega)
  have HL3 := Lib.hid (HL.out.later HB.out)
  have HLb := Lib.hid (And.intro hbL1 (And.intro (bytesR_bys HE.out.1 HQ3.out) (And.intro hL1l hL2l)))
  have hsz3 : w.heap.size + 2 ≤ w3.heap.size := by omega
  have hsz2 : w.heap.size + 2 ≤ w2.heap.size := by omega
  have hV17 : V ≤ 131072 := by omega
  clear hbL1 hL1l hL2l b3 hs2 hs3 hsX
  rcases HForm.out with ⟨rfl, rfl, rfl, hl0⟩ | ⟨bb, rfl⟩
  · obtain rfl : V = 0 := by omega
    have HT : Hid (Rd w3 (.slice none 0 0) (last.take 0)) := by
      have := HL3.out
      rw [hl0] at this ⊢
      exact this
    clear hl0
    go_upto_region 13 with (at_builtin; refine wpList_append_at rfl _ _ rfl w3.heap.size none 0 0 [] rfl ⟨rfl, World.ownsRow_nil _ _ _ _⟩ none 0 0 (last.take 0) rfl HT.out (by omega) (Nat.le_refl _) ?_; intro a4 m4 c4 w4 own4 b4)
    have O4 := Lib.hid (show Own w4 w3.heap.size (.slice a4 m4 c4) m4 (last.take 0) by simpa using own4)
    have hm4 : m4 ≤ 131072 := by have := O4.out.1; rw [List.length_take] at this; omega
    have HB4 := Lib.hid b4
    clear own4 b4
    go_wp2_with (at_builtin; refine wpList_append_at rfl _ _ rfl w3.heap.size a4 m4 c4 (last.take 0) rfl O4.out a1 m1 c1 L1 rfl (HL1.out.later HB4.out) (by omega) HB4.out.size ?_; intro a5 m5 c5 w5 own5 b5)
    have b35 := HB4.out.trans b5
    have hkb : Bys (last.take 0 ++ L1) := fun x hx => by
      rcases List.mem_append.1 hx with hx | hx
      · exact HL.out.1 x (List.mem_of_mem_take hx)
      · exact HLb.out.1 x hx
    have hkl : (last.take 0 ++ L1).length ≤ 262144 := by rw [List.length_append, List.length_take]; have := HLb.out.2.2.1; have := HNE.out.2.1; omega
    have hm5 : m5 ≤ 262144 := by have := own5.1; omega
    have HO5 := Lib.hid own5
    have HKb := Lib.hid hkb
    have HB5 := Lib.hid (HB.out.trans (b35.mono HB.out.size))
    refine (refParse_any (own5.rd hkb (by omega)) (by omega)).mono ?_
    have hs5 : w3.heap.size ≤ w5.heap.size := b35.size
    have BG := Lib.hid (BG.out.later b35)
    have BN := Lib.hid (BN.out.later b35)
    have HO2 := Lib.hid (HO2.out.later b35)
    clear own5 b5 b35 hkb hkl O4 HB4 HT HL1
    rintro e6 w6 ⟨b6, ⟨D, d1, d2, d3, d4, d5, d6, rfl, d8, B, d9, d10, d11⟩ | ⟨n1, rfl⟩⟩
    · have BG := Lib.hid (BG.out.later b6)
      have HO2 := Lib.hid (HO2.out.later b6)
      have HO5 := Lib.hid (HO5.out.later b6)
      have HB6 := Lib.hid (HB5.out.trans (b6.mono HB5.out.size))
      have hs6 : w5.heap.size ≤ w6.heap.size := b6.size
      have HD := Lib.hid (And.intro d1 (And.intro d2 (And.intro d3 (And.intro d4 (And.intro d5 (And.intro d8 (d10.mono d9)))))))
      obtain ⟨vr, fam, vq, ts, seq, kind, vv, row, qual, val⟩ := D
      simp only at d6 d2
      subst d6
      subst d2
      obtain ⟨r1, q1, e1⟩ := own_form d8.2
      obtain ⟨r2, q2, e2⟩ := own_form d10.2
      simp only at e1 e2
      subst e1
      subst e2
      have bx7 := EBox.new w6 ⟨.slice r1 row.length q1, fam, .slice r2 qual.length q2, ts, seq, kind, .slice none 0 0, row, qual, []⟩
      have b7 := (Below.refl w6.heap.size w6).alloc (Nat.le_refl _) (.cells (EntD.mk (.slice r1 row.length q1) fam (.slice r2 qual.length q2) ts seq kind (.slice none 0 0) row qual []).cells 40)
      have bg7 := BG.out.later b7
      have bx8 := bx7.set6 (.slice a2 m2 c2) L2
      have b8 := b7.setCell (p := ⟨w6.heap.size, 6, none⟩) (Nat.le_refl _) (.slice a2 m2 c2)
      have bg8 := bg7.apart (apart_set _ w6.heap.size 6 (.slice a2 m2 c2)) (by omega)
      have f7 := bx7.fz 6
      have c7 := bx7.vv
      simp only [EntD.cells] at bx7 b7 bg7 bx8 b8 bg8 f7 c7 ⊢
      obtain ⟨nr, hnr⟩ : ∃ nr, nr = row.length := ⟨_, rfl⟩
      obtain ⟨nq, hnq⟩ : ∃ nq, nq = qual.length := ⟨_, rfl⟩
      have HNr := Lib.hid (And.intro hnr hnq)
      rw [← hnr, ← hnq] at bx7 b7 bg7 bx8 b8 bg8 f7 c7 ⊢
      obtain ⟨w7, h7⟩ : ∃ w7, w7 = w6.alloc (.cells #[.slice r1 nr q1, .int .i64 fam, .slice r2 nq q2, .int .i64 ts, .int .i64 seq, .int .i64 kind, .slice none 0 0] 40) := ⟨_, rfl⟩
      rw [← h7] at bx7 b7 bg7 bx8 b8 bg8 f7 c7
      have HDN : Hid (EBox (filled (w7.setCell ⟨w6.heap.size, 6, none⟩ (.slice a2 m2 c2)) w.heap.size ⟨.slice r1 nr q1, fam, .slice r2 nq q2, ts, seq, kind, .slice a2 m2 c2, row, qual, L2⟩) w.heap.size ⟨.slice r1 nr q1, fam, .slice r2 nq q2, ts, seq, kind, .slice a2 m2 c2, row, qual, L2⟩ ∧ Fb w6 (filled (w7.setCell ⟨w6.heap.size, 6, none⟩ (.slice a2 m2 c2)) w.heap.size ⟨.slice r1 nr q1, fam, .slice r2 nq q2, ts, seq, kind, .slice a2 m2 c2, row, qual, L2⟩) (fun k => k = w.heap.size)) := ⟨filled_box bg8 _, (Fb.of_below b8).trans (Fb.of_apart (filled_apart _ w.heap.size _) rfl)⟩
      simp only [filled] at HDN
      obtain ⟨g0, g1, g2, g3, g4, g5, g6⟩ := bg8.cells7
      obtain ⟨gf0, gf1, gf2, gf3, gf4, gf5, gf6⟩ := bg8.fz7b
      obtain ⟨x0, x1, x2, x3, x4, x5, x6⟩ := bx8.cells7
      simp only at g0 g1 g2 g3 g4 g5 g6 x0 x1 x2 x3 x4 x5 x6
      have H7 := Lib.hid h7
      clear bx7 b7 bg7 bx8 b8 bg8 hnr hnq h7 d1 d3 d4 d5 d8 d9 d10 d11 b6
      go_upto_region 17 with fail
      rw [← H7.out]
      clear H7
      go_wp2
      obtain ⟨fb, bw⟩ := HDN.out
      clear HDN
      generalize ((((((((w7.setCell ⟨w6.heap.size, 6, none⟩ (.slice a2 m2 c2)).setCell ⟨w.heap.size, 0, none⟩ (.slice r1 nr q1)).setCell ⟨w.heap.size, 1, none⟩ (.int .i64 fam)).setCell ⟨w.heap.size, 2, none⟩ (.slice r2 nq q2)).setCell ⟨w.heap.size, 3, none⟩ (.int .i64 ts)).setCell ⟨w.heap.size, 4, none⟩ (.int .i64 seq)).setCell ⟨w.heap.size, 5, none⟩ (.int .i64 kind)).setCell ⟨w.heap.size, 6, none⟩ (.slice a2 m2 c2)) = wz at fb bw ⊢
      obtain ⟨t0, t1, t2, t3, t4, t5, t6⟩ := fb.cells7
      simp only at t0 t1 t2 t3 t4 t5 t6
      (try simp only [Exit.inBlock, Exit.then])
      refine bodyPost_ret (v := .tuple #[.agg #[.slice r1 nr q1, .int .i64 fam, .slice r2 nq q2, .int .i64 ts, .int .i64 seq, .int .i64 kind, .slice a2 m2 c2], .slice a5 m5 c5, .int .i64 (p3 : Int), .bool true]) ?hres rfl ?_
      case hres => simp [results, Tryz.results68, go_sem, t0, t1, t2, t3, t4, t5, t6]
      obtain ⟨j1, j2, j3, j4, j5, j6, j7⟩ := HD.out
      have jf := check_facts j1
      simp only at j3 j4 j5 j6 j7 jf
      obtain ⟨rfl, rfl⟩ := HNr.out
      have o5 := HO5.out.fb bw (fun i hi => by have := (HO5.out.2.lt i hi).1; omega)
      have or_ := j6.fb bw (fun i hi => by have := (j6.2.lt i hi).1; omega)
      have oq := j7.fb bw (fun i hi => by have := (j7.2.lt i hi).1; omega)
      have ov := HO2.out.fb bw (fun i hi => by have := (HO2.out.2.lt i hi).1; omega)
      have hm2 : m2 = L2.length := ov.1
      have hkk : keyL ⟨.slice r1 row.length q1, fam, .slice r2 qual.length q2, ts, seq, kind, .slice a2 m2 c2, row, qual, L2⟩ = last.take 0 ++ L1 := j3
      refine ⟨HB6.out.trans (bw.below HB6.out.size (fun i hi => by omega)), .inr ⟨⟨.slice r1 row.length q1, fam, .slice r2 qual.length q2, ts, seq, kind, .slice a2 m2 c2, row, qual, L2⟩, p3, a5, m5, c5, ?_, ?_, rfl, ?_, ?_, ?_, ?_⟩⟩
      · rw [hkk]
        have hq2 := HQ2.out
        have hq3 := HQ3.out
        rw [HNE.out.1] at hq2 hq3
        exact rfr_of HNE.out.2.2.1 (by have := HNE.out.2.2.1; have := HNE.out.2.2.2.1; omega) HU.out (by have := HNE.out.2.1; omega) hq2 hq3 ⟨_, j1, rfl, j3⟩
      · have := ok_iff j1 rfl L2 (.slice r1 row.length q1) (.slice r2 qual.length q2) (.slice a2 m2 c2)
        exact this
      · rw [hkk]; exact o5.mono (by omega)
      · rw [hkk]; exact HKb.out
      · exact ⟨or_.rd j4 (by omega), oq.rd j5 (by omega), ov.rd HLb.out.2.1 (by have := HLb.out.2.2.2; omega)⟩
      · have ov' : Own wz w.heap.size (.slice a2 m2 c2) L2.length L2 := by
          have h := ov.mono (show w.heap.size ≤ w2.heap.size by omega)
          rw [← hm2]
          exact h
        exact ⟨or_.mono (by omega), oq.mono (by omega), ov'⟩
    · have b7 := (Below.refl w6.heap.size w6).alloc (Nat.le_refl _) (.cells #[.slice none 0 0, .int .i64 0, .slice none 0 0, .int .i64 0, .int .i64 0, .int .i64 0, .slice none 0 0] 40)
      have BG := Lib.hid ((BG.out.later b6).later b7)
      have BN := Lib.hid ((BN.out.later b6).later b7)
      have HB6 := HB5.out.trans (b6.mono HB5.out.size)
      have HB := Lib.hid (HB6.trans (b7.mono HB6.size))
      obtain ⟨w7, h7⟩ : ∃ w7, w7 = w6.alloc (.cells #[.slice none 0 0, .int .i64 0, .slice none 0 0, .int .i64 0, .int .i64 0, .int .i64 0, .slice none 0 0] 40) := ⟨_, rfl⟩
      rw [← h7] at BG BN HB
      have H7 := Lib.hid h7
      clear HB6 b7 h7 b6
      go_upto_region 15 with fail
      rw [← H7.out]
      clear H7
      obtain ⟨g0, g1, g2, g3, g4, g5, g6⟩ := BG.out.cells7
      obtain ⟨gf0, gf1, gf2, gf3, gf4, gf5, gf6⟩ := BG.out.fz7b
      obtain ⟨m0, m1, m2, m3, m4, m5, m6⟩ := BN.out.cells7
      simp only at g0 g1 g2 g3 g4 g5 g6 m0 m1 m2 m3 m4 m5 m6
      have HDN : Hid (EBox (filled w7 w.heap.size ⟨.slice none 0 0, 0, .slice none 0 0, 0, 0, 0, .slice none 0 0, [], [], []⟩) w.heap.size ⟨.slice none 0 0, 0, .slice none 0 0, 0, 0, 0, .slice none 0 0, [], [], []⟩ ∧ Below w.heap.size w (filled w7 w.heap.size ⟨.slice none 0 0, 0, .slice none 0 0, 0, 0, 0, .slice none 0 0, [], [], []⟩)) := ⟨filled_box BG.out ⟨.slice none 0 0, 0, .slice none 0 0, 0, 0, 0, .slice none 0 0, [], [], []⟩, HB.out.trans ((filled_apart w7 w.heap.size ⟨.slice none 0 0, 0, .slice none 0 0, 0, 0, 0, .slice none 0 0, [], [], []⟩).below (Nat.le_refl _) HB.out.size)⟩
      simp only [filled] at HDN
      have HWhy : Hid (∀ key val p', ¬ RfR E p last key val p') := by
        intro key val p' h; obtain ⟨V', P', L1', p2', k1, k2, k3, k4, k5, k6⟩ := rfr_un HNE.out.2.2.1 h; rw [HU.out] at k1; simp only [Prod.mk.injEq] at k1; obtain ⟨rfl, rfl, -⟩ := k1; rw [← HNE.out.1, HQ2.out] at k3; simp only [Prod.mk.injEq] at k3; obtain ⟨rfl, rfl, -⟩ := k3; rw [k5] at k6; exact n1 k6
      go_wp2
      obtain ⟨fb, bw⟩ := HDN.out
      clear HDN
      generalize (((((((w7.setCell ⟨w.heap.size, 0, none⟩ (.slice none 0 0)).setCell ⟨w.heap.size, 1, none⟩ (.int .i64 0)).setCell ⟨w.heap.size, 2, none⟩ (.slice none 0 0)).setCell ⟨w.heap.size, 3, none⟩ (.int .i64 0)).setCell ⟨w.heap.size, 4, none⟩ (.int .i64 0)).setCell ⟨w.heap.size, 5, none⟩ (.int .i64 0)).setCell ⟨w.heap.size, 6, none⟩ (.slice none 0 0)) = wz at fb bw ⊢
      obtain ⟨t0, t1, t2, t3, t4, t5, t6⟩ := fb.cells7
      simp only at t0 t1 t2 t3 t4 t5 t6
      (try simp only [Exit.inBlock, Exit.then])
      refine bodyPost_ret (v := .tuple #[.agg #[.slice none 0 0, .int .i64 0, .slice none 0 0, .int .i64 0, .int .i64 0, .int .i64 0, .slice none 0 0], .slice none 0 0, .int .i64 0, .bool false]) ?hres rfl ?_
      case hres => simp [results, Tryz.results68, go_sem, t0, t1, t2, t3, t4, t5, t6]
      exact ⟨bw, .inl ⟨HWhy.out, rfl⟩⟩
  · have HT : Hid (Rd w3 (.slice (some ⟨bb, 0, none⟩) V cl) (last.take V)) := by
      unfold Hid
      have h := HL3.out.sub 0 V (Nat.zero_le _) hVl (off' := 0) (n' := V) (cap' := cl) (by omega) (by omega) (by omega)
      simpa using h
    have hcl : (V : Int) ≤ (cl : Int) := by have := (rd_lens HL3.out).2.1; omega
    go_upto_region 13 with (at_builtin; refine wpList_append_at rfl _ _ rfl w3.heap.size none 0 0 [] rfl ⟨rfl, World.ownsRow_nil _ _ _ _⟩ (some ⟨bb, 0, none⟩) V cl (last.take V) rfl HT.out (by omega) (Nat.le_refl _) ?_; intro a4 m4 c4 w4 own4 b4)
    have O4 := Lib.hid (show Own w4 w3.heap.size (.slice a4 m4 c4) m4 (last.take V) by simpa using own4)
    have hm4 : m4 ≤ 131072 := by have := O4.out.1; rw [List.length_take] at this; omega
    have HB4 := Lib.hid b4
    clear own4 b4
    go_wp2_with (at_builtin; refine wpList_append_at rfl _ _ rfl w3.heap.size a4 m4 c4 (last.take V) rfl O4.out a1 m1 c1 L1 rfl (HL1.out.later HB4.out) (by omega) HB4.out.size ?_; intro a5 m5 c5 w5 own5 b5)
    have b35 := HB4.out.trans b5
    have hkb : Bys (last.take V ++ L1) := fun x hx => by
      rcases List.mem_append.1 hx with hx | hx
      · exact HL.out.1 x (List.mem_of_mem_take hx)
      · exact HLb.out.1 x hx
    have hkl : (last.take V ++ L1).length ≤ 262144 := by rw [List.length_append, List.length_take]; have := HLb.out.2.2.1; have := HNE.out.2.1; omega
    have hm5 : m5 ≤ 262144 := by have := own5.1; omega
    have HO5 := Lib.hid own5
    have HKb := Lib.hid hkb
    have HB5 := Lib.hid (HB.out.trans (b35.mono HB.out.size))
    refine (refParse_any (own5.rd hkb (by omega)) (by omega)).mono ?_
    have hs5 : w3.heap.size ≤ w5.heap.size := b35.size
    have BG := Lib.hid (BG.out.later b35)
    have BN := Lib.hid (BN.out.later b35)
    have HO2 := Lib.hid (HO2.out.later b35)
    clear own5 b5 b35 hkb hkl O4 HB4 HT HL1
    rintro e6 w6 ⟨b6, ⟨D, d1, d2, d3, d4, d5, d6, rfl, d8, B, d9, d10, d11⟩ | ⟨n1, rfl⟩⟩
    · have BG := Lib.hid (BG.out.later b6)
      have HO2 := Lib.hid (HO2.out.later b6)
      have HO5 := Lib.hid (HO5.out.later b6)
      have HB6 := Lib.hid (HB5.out.trans (b6.mono HB5.out.size))
      have hs6 : w5.heap.size ≤ w6.heap.size := b6.size
      have HD := Lib.hid (And.intro d1 (And.intro d2 (And.intro d3 (And.intro d4 (And.intro d5 (And.intro d8 (d10.mono d9)))))))
      obtain ⟨vr, fam, vq, ts, seq, kind, vv, row, qual, val⟩ := D
      simp only at d6 d2
      subst d6
      subst d2
      obtain ⟨r1, q1, e1⟩ := own_form d8.2
      obtain ⟨r2, q2, e2⟩ := own_form d10.2
      simp only at e1 e2
      subst e1
      subst e2
      have bx7 := EBox.new w6 ⟨.slice r1 row.length q1, fam, .slice r2 qual.length q2, ts, seq, kind, .slice none 0 0, row, qual, []⟩
      have b7 := (Below.refl w6.heap.size w6).alloc (Nat.le_refl _) (.cells (EntD.mk (.slice r1 row.length q1) fam (.slice r2 qual.length q2) ts seq kind (.slice none 0 0) row qual []).cells 40)
      have bg7 := BG.out.later b7
      have bx8 := bx7.set6 (.slice a2 m2 c2) L2
      have b8 := b7.setCell (p := ⟨w6.heap.size, 6, none⟩) (Nat.le_refl _) (.slice a2 m2 c2)
      have bg8 := bg7.apart (apart_set _ w6.heap.size 6 (.slice a2 m2 c2)) (by omega)
      have f7 := bx7.fz 6
      have c7 := bx7.vv
      simp only [EntD.cells] at bx7 b7 bg7 bx8 b8 bg8 f7 c7 ⊢
      obtain ⟨nr, hnr⟩ : ∃ nr, nr = row.length := ⟨_, rfl⟩
      obtain ⟨nq, hnq⟩ : ∃ nq, nq = qual.length := ⟨_, rfl⟩
      have HNr := Lib.hid (And.intro hnr hnq)
      rw [← hnr, ← hnq] at bx7 b7 bg7 bx8 b8 bg8 f7 c7 ⊢
      obtain ⟨w7, h7⟩ : ∃ w7, w7 = w6.alloc (.cells #[.slice r1 nr q1, .int .i64 fam, .slice r2 nq q2, .int .i64 ts, .int .i64 seq, .int .i64 kind, .slice none 0 0] 40) := ⟨_, rfl⟩
      rw [← h7] at bx7 b7 bg7 bx8 b8 bg8 f7 c7
      have HDN : Hid (EBox (filled (w7.setCell ⟨w6.heap.size, 6, none⟩ (.slice a2 m2 c2)) w.heap.size ⟨.slice r1 nr q1, fam, .slice r2 nq q2, ts, seq, kind, .slice a2 m2 c2, row, qual, L2⟩) w.heap.size ⟨.slice r1 nr q1, fam, .slice r2 nq q2, ts, seq, kind, .slice a2 m2 c2, row, qual, L2⟩ ∧ Fb w6 (filled (w7.setCell ⟨w6.heap.size, 6, none⟩ (.slice a2 m2 c2)) w.heap.size ⟨.slice r1 nr q1, fam, .slice r2 nq q2, ts, seq, kind, .slice a2 m2 c2, row, qual, L2⟩) (fun k => k = w.heap.size)) := ⟨filled_box bg8 _, (Fb.of_below b8).trans (Fb.of_apart (filled_apart _ w.heap.size _) rfl)⟩
      simp only [filled] at HDN
      obtain ⟨g0, g1, g2, g3, g4, g5, g6⟩ := bg8.cells7
      obtain ⟨gf0, gf1, gf2, gf3, gf4, gf5, gf6⟩ := bg8.fz7b
      obtain ⟨x0, x1, x2, x3, x4, x5, x6⟩ := bx8.cells7
      simp only at g0 g1 g2 g3 g4 g5 g6 x0 x1 x2 x3 x4 x5 x6
      have H7 := Lib.hid h7
      clear bx7 b7 bg7 bx8 b8 bg8 hnr hnq h7 d1 d3 d4 d5 d8 d9 d10 d11 b6
      go_upto_region 17 with fail
      rw [← H7.out]
      clear H7
      go_wp2
      obtain ⟨fb, bw⟩ := HDN.out
      clear HDN
      generalize ((((((((w7.setCell ⟨w6.heap.size, 6, none⟩ (.slice a2 m2 c2)).setCell ⟨w.heap.size, 0, none⟩ (.slice r1 nr q1)).setCell ⟨w.heap.size, 1, none⟩ (.int .i64 fam)).setCell ⟨w.heap.size, 2, none⟩ (.slice r2 nq q2)).setCell ⟨w.heap.size, 3, none⟩ (.int .i64 ts)).setCell ⟨w.heap.size, 4, none⟩ (.int .i64 seq)).setCell ⟨w.heap.size, 5, none⟩ (.int .i64 kind)).setCell ⟨w.heap.size, 6, none⟩ (.slice a2 m2 c2)) = wz at fb bw ⊢
      obtain ⟨t0, t1, t2, t3, t4, t5, t6⟩ := fb.cells7
      simp only at t0 t1 t2 t3 t4 t5 t6
      (try simp only [Exit.inBlock, Exit.then])
      refine bodyPost_ret (v := .tuple #[.agg #[.slice r1 nr q1, .int .i64 fam, .slice r2 nq q2, .int .i64 ts, .int .i64 seq, .int .i64 kind, .slice a2 m2 c2], .slice a5 m5 c5, .int .i64 (p3 : Int), .bool true]) ?hres rfl ?_
      case hres => simp [results, Tryz.results68, go_sem, t0, t1, t2, t3, t4, t5, t6]
      obtain ⟨j1, j2, j3, j4, j5, j6, j7⟩ := HD.out
      have jf := check_facts j1
      simp only at j3 j4 j5 j6 j7 jf
      obtain ⟨rfl, rfl⟩ := HNr.out
      have o5 := HO5.out.fb bw (fun i hi => by have := (HO5.out.2.lt i hi).1; omega)
      have or_ := j6.fb bw (fun i hi => by have := (j6.2.lt i hi).1; omega)
      have oq := j7.fb bw (fun i hi => by have := (j7.2.lt i hi).1; omega)
      have ov := HO2.out.fb bw (fun i hi => by have := (HO2.out.2.lt i hi).1; omega)
      have hm2 : m2 = L2.length := ov.1
      have hkk : keyL ⟨.slice r1 row.length q1, fam, .slice r2 qual.length q2, ts, seq, kind, .slice a2 m2 c2, row, qual, L2⟩ = last.take V ++ L1 := j3
      refine ⟨HB6.out.trans (bw.below HB6.out.size (fun i hi => by omega)), .inr ⟨⟨.slice r1 row.length q1, fam, .slice r2 qual.length q2, ts, seq, kind, .slice a2 m2 c2, row, qual, L2⟩, p3, a5, m5, c5, ?_, ?_, rfl, ?_, ?_, ?_, ?_⟩⟩
      · rw [hkk]
        have hq2 := HQ2.out
        have hq3 := HQ3.out
        rw [HNE.out.1] at hq2 hq3
        exact rfr_of HNE.out.2.2.1 (by have := HNE.out.2.2.1; have := HNE.out.2.2.2.1; omega) HU.out (by have := HNE.out.2.1; omega) hq2 hq3 ⟨_, j1, rfl, j3⟩
      · have := ok_iff j1 rfl L2 (.slice r1 row.length q1) (.slice r2 qual.length q2) (.slice a2 m2 c2)
        exact this
      · rw [hkk]; exact o5.mono (by omega)
      · rw [hkk]; exact HKb.out
      · exact ⟨or_.rd j4 (by omega), oq.rd j5 (by omega), ov.rd HLb.out.2.1 (by have := HLb.out.2.2.2; omega)⟩
      · have ov' : Own wz w.heap.size (.slice a2 m2 c2) L2.length L2 := by
          have h := ov.mono (show w.heap.size ≤ w2.heap.size by omega)
          rw [← hm2]
          exact h
        exact ⟨or_.mono (by omega), oq.mono (by omega), ov'⟩
    · have b7 := (Below.refl w6.heap.size w6).alloc (Nat.le_refl _) (.cells #[.slice none 0 0, .int .i64 0, .slice none 0 0, .int .i64 0, .int .i64 0, .int .i64 0, .slice none 0 0] 40)
      have BG := Lib.hid ((BG.out.later b6).later b7)
      have BN := Lib.hid ((BN.out.later b6).later b7)
      have HB6 := HB5.out.trans (b6.mono HB5.out.size)
      have HB := Lib.hid (HB6.trans (b7.mono HB6.size))
      obtain ⟨w7, h7⟩ : ∃ w7, w7 = w6.alloc (.cells #[.slice none 0 0, .int .i64 0, .slice none 0 0, .int .i64 0, .int .i64 0, .int .i64 0, .slice none 0 0] 40) := ⟨_, rfl⟩
      rw [← h7] at BG BN HB
      have H7 := Lib.hid h7
      clear HB6 b7 h7 b6
      go_upto_region 15 with fail
      rw [← H7.out]
      clear H7
      obtain ⟨g0, g1, g2, g3, g4, g5, g6⟩ := BG.out.cells7
      obtain ⟨gf0, gf1, gf2, gf3, gf4, gf5, gf6⟩ := BG.out.fz7b
      obtain ⟨m0, m1, m2, m3, m4, m5, m6⟩ := BN.out.cells7
      simp only at g0 g1 g2 g3 g4 g5 g6 m0 m1 m2 m3 m4 m5 m6
      have HDN : Hid (EBox (filled w7 w.heap.size ⟨.slice none 0 0, 0, .slice none 0 0, 0, 0, 0, .slice none 0 0, [], [], []⟩) w.heap.size ⟨.slice none 0 0, 0, .slice none 0 0, 0, 0, 0, .slice none 0 0, [], [], []⟩ ∧ Below w.heap.size w (filled w7 w.heap.size ⟨.slice none 0 0, 0, .slice none 0 0, 0, 0, 0, .slice none 0 0, [], [], []⟩)) := ⟨filled_box BG.out ⟨.slice none 0 0, 0, .slice none 0 0, 0, 0, 0, .slice none 0 0, [], [], []⟩, HB.out.trans ((filled_apart w7 w.heap.size ⟨.slice none 0 0, 0, .slice none 0 0, 0, 0, 0, .slice none 0 0, [], [], []⟩).below (Nat.le_refl _) HB.out.size)⟩
      simp only [filled] at HDN
      have HWhy : Hid (∀ key val p', ¬ RfR E p last key val p') := by
        intro key val p' h; obtain ⟨V', P', L1', p2', k1, k2, k3, k4, k5, k6⟩ := rfr_un HNE.out.2.2.1 h; rw [HU.out] at k1; simp only [Prod.mk.injEq] at k1; obtain ⟨rfl, rfl, -⟩ := k1; rw [← HNE.out.1, HQ2.out] at k3; simp only [Prod.mk.injEq] at k3; obtain ⟨rfl, rfl, -⟩ := k3; rw [k5] at k6; exact n1 k6
      go_wp2
      obtain ⟨fb, bw⟩ := HDN.out
      clear HDN
      generalize (((((((w7.setCell ⟨w.heap.size, 0, none⟩ (.slice none 0 0)).setCell ⟨w.heap.size, 1, none⟩ (.int .i64 0)).setCell ⟨w.heap.size, 2, none⟩ (.slice none 0 0)).setCell ⟨w.heap.size, 3, none⟩ (.int .i64 0)).setCell ⟨w.heap.size, 4, none⟩ (.int .i64 0)).setCell ⟨w.heap.size, 5, none⟩ (.int .i64 0)).setCell ⟨w.heap.size, 6, none⟩ (.slice none 0 0)) = wz at fb bw ⊢
      obtain ⟨t0, t1, t2, t3, t4, t5, t6⟩ := fb.cells7
      simp only at t0 t1 t2 t3 t4 t5 t6
      (try simp only [Exit.inBlock, Exit.then])
      refine bodyPost_ret (v := .tuple #[.agg #[.slice none 0 0, .int .i64 0, .slice none 0 0, .int .i64 0, .int .i64 0, .int .i64 0, .slice none 0 0], .slice none 0 0, .int .i64 0, .bool false]) ?hres rfl ?_
      case hres => simp [results, Tryz.results68, go_sem, t0, t1, t2, t3, t4, t5, t6]
      exact ⟨bw, .inl ⟨HWhy.out, rfl⟩⟩
end Go.Proofs.YtchebhafabhabaaGreatDoor

namespace Go.Proofs.YtchebhafabhabaaGreatDoor
open Go.RowKit Go.Shelf
set_option linter.unusedVariables false

set_option maxRecDepth 100000 in
set_option maxHeartbeats 1000000 in
theorem number5_any {b off n cap : Nat} {bs : List Nat} {w : World} (hr : Rd w (.slice (some ⟨b, off, none⟩) n cap) bs) (k : Nat) (hk : k + 4 ≤ n) :
    Calls Tryz.prog 67 #[.slice (some ⟨b, off, none⟩) n cap, .int .i64 (k : Int)] w fun e w' => e = .returned (.int .i64 ((rdle (bs.getD (k + 3) 0) (bs.getD (k + 2) 0) (bs.getD (k + 1) 0) (bs.getD k 0) : Nat) : Int)) ∧ Below w.heap.size w w' := by
  obtain ⟨hn, hle, hm, hl48⟩ := rd_lens hr
  obtain ⟨c0, h0⟩ := rd_cell hr k (by omega)
  obtain ⟨c1, h1⟩ := rd_cell hr (k + 1) (by omega)
  obtain ⟨c2, h2⟩ := rd_cell hr (k + 2) (by omega)
  obtain ⟨c3, h3⟩ := rd_cell hr (k + 3) (by omega)
  generalize bs.getD k 0 = x0 at *
  generalize bs.getD (k + 1) 0 = x1 at *
  generalize bs.getD (k + 2) 0 = x2 at *
  generalize bs.getD (k + 3) 0 = x3 at *
  have k0 : (0 : Int) ≤ (k : Int) := by omega
  have g0 : (k : Int) < (n : Int) := by omega
  have g1 : (k : Int) + 1 < (n : Int) := by omega
  have g2 : (k : Int) + 2 < (n : Int) := by omega
  have g3 : (k : Int) + 3 < (n : Int) := by omega
  have q1 : (0 : Int) ≤ (k : Int) + 1 := by omega
  have q2 : (0 : Int) ≤ (k : Int) + 2 := by omega
  have q3 : (0 : Int) ≤ (k : Int) + 3 := by omega
  have e1 : IntKind.i64.wrap ((k : Int) + 1) = (k : Int) + 1 := IntWalk.i64_in _ ⟨by omega, by omega⟩
  have e2 : IntKind.i64.wrap ((k : Int) + 2) = (k : Int) + 2 := IntWalk.i64_in _ ⟨by omega, by omega⟩
  have e3 : IntKind.i64.wrap ((k : Int) + 3) = (k : Int) + 3 := IntWalk.i64_in _ ⟨by omega, by omega⟩
  clear hn hr
  go_enter Tryz.func67, Tryz.ntmps67
  go_wp2
  go_quiet (fail)
  go_wp2
  go_ret
  refine ⟨?_, below_drewN (Below.refl _ _) _⟩
  exact congrArg (fun z : Int => Ending.returned (Value.int .i64 z)) (show (((x0 : Int) * 256 + (x1 : Int)) * 256 + (x2 : Int)) * 256 + (x3 : Int) = ((rdle x3 x2 x1 x0 : Nat) : Int) by unfold rdle; omega)
theorem skA_one {l : List (List Nat × List Nat)} {key : List Nat} {n m : Nat} (h : SkA l key n) (k : SkA l key m) : n = m := by
  have aux : ∀ {a b : Nat}, SkA l key a → SkA l key b → ¬ a < b := fun {a b} h k hlt => by
    have hl := k.le
    have hx : l[a]? = some l[a] := List.getElem?_eq_getElem (by omega)
    have h1 := h.hi a _ hx (Nat.le_refl _)
    have h2 := k.lo a _ hx hlt
    omega
  have := aux h k
  have := aux k h
  omega
set_option maxRecDepth 100000 in
set_option maxHeartbeats 2000000 in
theorem refSeek5_any {W : World} {a ak : Option Addr} {cap kn kc : Nat} {l : List EntD} {key : List Nat} (hr : RdL5 W a cap l) (hc : ∀ e ∈ l, checkS e = 0) (hup : Up [] (kvL l)) (hkey : Rd W (.slice ak kn kc) key) (hl : l.length ≤ 131072) :
    Calls Tryz.prog 31 #[.slice a l.length cap, .slice ak kn kc] W fun x w' => (∃ n : Nat, x = .returned (.int .i64 (n : Int)) ∧ SkA (kvL l) key n) ∧ Below W.heap.size W w' := by
  obtain ⟨N, hN⟩ : ∃ N, N = l.length := ⟨_, rfl⟩
  rw [← hN]
  have hN17 : N ≤ 131072 := by omega
  have HN := Lib.hid hN
  have HR := Lib.hid hr
  have HC := Lib.hid (And.intro hc hup)
  have HK := Lib.hid hkey
  clear hN hr hl hc hup hkey
  go_enter Tryz.func31, Tryz.ntmps31
  go_wp2
  go_loopw [5, 6, 7] (fun iv _ _ wr => ∃ (k : Nat), k ≤ N ∧ iv = .int .i64 (k : Int) ∧ Hid (Below W.heap.size W wr ∧ ∀ x kv, x < k → (kvL l)[x]? = some kv → ordC kv.1 key < 0)) (fun iv _ _ _ => N - (intOf iv).toNat)
  case atStart => exact ⟨0, Nat.zero_le _, rfl, Below.refl _ _, fun x kv hx => by omega⟩
  case round =>
    obtain ⟨k, hk, rfl, HU⟩ := hrel
    have k0 : (0 : Int) ≤ (k : Int) := by omega
    by_cases hlt : k < N
    · have hlt2 : (k : Int) < (N : Int) := by omega
      have hl2 : k < l.length := by rw [← HN.out]; exact hlt
      obtain ⟨e, he⟩ : ∃ e, l[k]? = some e := ⟨l[k], List.getElem?_eq_getElem hl2⟩
      have hrd := HR.out.later HU.out.1
      have hem := List.mem_of_getElem? he
      have hok := hrd.ok e hem
      obtain ⟨b, off, rfl, d0, d1, d2, d3, d4, d5, d6⟩ := hrd.cel he
      have hce0 := HC.out.1 e hem
      obtain ⟨_, p1, q1, e1, -⟩ := hok.1
      obtain ⟨_, p2, q2, e2, -⟩ := hok.2.1
      obtain ⟨_, p3, q3, e3, -⟩ := hok.2.2
      have hce : e.cells = #[.slice p1 e.row.length q1, .int .i64 e.fam, .slice p2 e.qual.length q2, .int .i64 e.ts, .int .i64 e.seq, .int .i64 e.kind, .slice p3 e.val.length q3] := by unfold EntD.cells; rw [e1, e2, e3]
      obtain ⟨z1, hz1⟩ : ∃ z, z = e.row.length := ⟨_, rfl⟩
      obtain ⟨z2, hz2⟩ : ∃ z, z = e.qual.length := ⟨_, rfl⟩
      obtain ⟨z3, hz3⟩ : ∃ z, z = e.val.length := ⟨_, rfl⟩
      rw [e1, ← hz1] at d0
      rw [e2, ← hz2] at d2
      rw [e3, ← hz3] at d6
      rw [← hz1, ← hz2, ← hz3] at hce
      obtain ⟨K, hKK⟩ : ∃ K, keyL e = K := ⟨_, rfl⟩
      have HKy : Hid (Calls Tryz.prog 35 #[.agg #[.slice p1 z1 q1, .int .i64 e.fam, .slice p2 z2 q2, .int .i64 e.ts, .int .i64 e.seq, .int .i64 e.kind, .slice p3 z3 q3]] wr fun r w' => ∃ a m c, r = .returned (.tuple #[.slice a m c, .int .i64 0]) ∧ Own w' wr.heap.size (.slice a m c) m K ∧ Below wr.heap.size wr w') := by
        have h := refKey_ok hok hce0
        rw [hce, hKK] at h
        exact h
      have hKb : Bys (keyL e) := keyL_bys hok.1.1 hok.2.1.1 hce0
      have hKl := keyL_len hce0
      rw [hKK] at hKb hKl
      have hkv : (kvL l)[k]? = some (K, e.val) := by rw [← hKK]; unfold kvL; rw [List.getElem?_map, he]; rfl
      have HKv := Lib.hid (And.intro hkv (And.intro hKb hKl))
      clear hrd hok hem he hce0 e1 e2 e3 hz1 hz2 hz3 hce hKK hKb hKl hkv hl2
      go_wp2_with fail
      refine HKy.out.mono ?_
      rintro z X1 ⟨a1, m1, c1, rfl, own1, b1⟩
      have HB1 := Lib.hid (HU.out.1.trans (b1.mono HU.out.1.size))
      have HCm : Hid (Calls Tryz.prog 72 #[.slice a1 m1 c1, .slice ak kn kc] X1 fun e w' => e = .returned (.int .i64 (ordC K key)) ∧ Below X1.heap.size X1 w') := refBytesOrd_any (own1.rd HKv.out.2.1 (by have := own1.1; have := HKv.out.2.2; omega)) (HK.out.later HB1.out)
      clear own1 b1 HKy d0 d1 d2 d3 d4 d5 d6
      go_wp2_with fail
      refine HCm.out.mono ?_
      rintro z X2 ⟨rfl, b2⟩
      have HB2 := Lib.hid (HB1.out.trans (b2.mono HB1.out.size))
      clear b2 HCm HB1
      by_cases ho : 0 ≤ ordC K key
      · have HEnd : Hid (SkA (kvL l) key k) := ⟨by rw [kvL_len, ← HN.out]; exact hk, fun x kv hx hlt => HU.out.2 x kv hlt hx, fun x kv hx hge => up_hi HC.out.2 HKv.out.1 ho x kv hx hge⟩
        have ho1 : (0 : Int) ≤ ordC K key := ho
        go_wp2
        go_ret
        exact ⟨⟨k, rfl, HEnd.out⟩, HB2.out⟩
      · have ho1 : ¬ (0 : Int) ≤ ordC K key := ho
        have HNx : Hid (∀ x kv, x < k + 1 → (kvL l)[x]? = some kv → ordC kv.1 key < 0) := fun x kv hx hkv => by
          by_cases hxk : x = k
          · subst hxk
            rw [HKv.out.1] at hkv
            cases hkv
            show ordC K key < 0
            omega
          · exact HU.out.2 x kv (by omega) hkv
        go_wp2
        go_roundw
        case rel => exact ⟨k + 1, by omega, by go_num, HB2.out, HNx.out⟩
        case measure => simp [intOf]; omega
    · have hge : ¬ (k : Int) < (N : Int) := by omega
      obtain rfl : k = N := by omega
      have HEnd : Hid (SkA (kvL l) key k) := ⟨by rw [kvL_len, ← HN.out]; exact Nat.le_refl _, fun x kv hx hlt => HU.out.2 x kv hlt hx, fun x kv hx hge => by have := (List.getElem?_eq_some_iff.1 hx).1; rw [kvL_len] at this; have := HN.out; omega⟩
      go_wp2
      go_ret
      exact ⟨⟨k, rfl, HEnd.out⟩, HU.out.1⟩
end Go.Proofs.YtchebhafabhabaaGreatDoor
