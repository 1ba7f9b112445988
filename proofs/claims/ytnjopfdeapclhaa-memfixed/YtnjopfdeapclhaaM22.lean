import Derived.Test.YtnjopfdeapclhaaJ15
namespace Go.Proofs.Ytnjopfdeapclhaa
open Go.RowKit Go.Shelf
set_option linter.unusedVariables false
attribute [local go_sem] Oper.semAt_some

set_option maxRecDepth 100000 in
set_option maxHeartbeats 16000000 in
theorem memFixed_B {w : World} {lv mv : Value} {ls ms : List EntD} (hl : RdE w lv ls) (hm : RdE w mv ms) (hlen : 60 < ls.length) :
    Calls Try.prog 3 #[lv, mv] w fun e w' => e = .returned (.bool true) ∧ Below w.heap.size w w' := by
  obtain ⟨al, cl, rfl, hl1, hl2, hl3, hl4⟩ := hl
  obtain ⟨am, cm, rfl, hm1, hm2, hm3, hm4⟩ := hm
  have HLS : Hid (∀ i x, (ls.take 60)[i]? = some x → EntD.Ok w x ∧ ∃ b off, al = some ⟨b, off, none⟩ ∧ Cs w b (off + i * 7) x) := fun i x h => hl4 i x (by
    rw [List.getElem?_take] at h
    split at h
    · exact h
    · cases h)
  obtain ⟨N0, hN⟩ : ∃ N0, N0 = ls.length := ⟨_, rfl⟩
  have HNL : Hid ((ls.take 60).length = 60) := by unfold Hid; rw [List.length_take]; omega
  rw [← hN] at hl1 hl3 hlen ⊢
  clear hN
  have d60 : decide ((60 : Int) < (N0 : Int)) = true := by simp; omega
  have hc60 : 60 ≤ cl := by omega
  have hN60 : (60 : Nat) ≤ 60 := Nat.le_refl _
  have HMS : Hid (∀ i x, ms[i]? = some x → EntD.Ok w x ∧ ∃ b off, am = some ⟨b, off, none⟩ ∧ Cs w b (off + i * 7) x) := hm4
  obtain ⟨M, hM⟩ : ∃ M, M = ms.length := ⟨_, rfl⟩
  rw [← hM] at hm1 hm3 ⊢
  have HML : Hid (ms.length = M) := hM.symm
  clear hM hl4 hm4
  have hmx : Try.prog.follows .mixedOrders = true := by kernel_rfl
  have b1 := (Below.refl w.heap.size w).alloc (Nat.le_refl _) (.cells #[.slice am M cm] 22)
  have b2 := b1.alloc b1.size (.cells #[.bool false] 4)
  have y1 : Bxd ((w.alloc (.cells #[.slice am M cm] 22)).alloc (.cells #[.bool false] 4)) w.heap.size 22 (.slice am M cm) := (Bxd.new w _ _).keep (Below.heap_alloc _ _ _ (by simp))
  have y2 : Bxd ((w.alloc (.cells #[.slice am M cm] 22)).alloc (.cells #[.bool false] 4)) (w.heap.size + 1) 4 (.bool false) := by
    have := Bxd.new (w.alloc (.cells #[.slice am M cm] 22)) 4 (.bool false)
    rwa [World.size_alloc] at this
  have HV : Hid (Below w.heap.size w _ ∧ Bxd _ w.heap.size 22 (.slice am M cm) ∧ Bxd _ (w.heap.size + 1) 4 (.bool false)) := ⟨b2, y1, y2⟩
  clear b1 b2 y1 y2
  refine (callsIn_wide (n := 9)).1 ?_
  refine callsIn_of_wp_marks Try.func3 rfl trivial ?_ rfl
  simp only [Try.ntmps3, List.size_toArray, List.length_cons, List.length_nil, Nat.reduceAdd, Nat.reduceSub, Array.replicate_succ, Array.replicate_zero, List.push_toArray, List.append_toArray, List.nil_append, List.cons_append]
  gi_wp2_with fail
  refine ⟨trivial, ?_⟩
  refine (callsIn_wide.2 (told8_any _)).mono ?_
  rintro z W1 ⟨rfl, hb1⟩
  have H1 : Hid (Below w.heap.size w W1 ∧ Bxd W1 w.heap.size 22 (.slice am M cm) ∧ Bxd W1 (w.heap.size + 1) 4 (.bool false)) := ⟨HV.out.1.trans (hb1.mono HV.out.1.size), HV.out.2.1.keep (hb1.block _ HV.out.2.1.lt), HV.out.2.2.keep (hb1.block _ HV.out.2.2.lt)⟩
  clear hb1 HV
  gi_wp2_with fail
  refine ⟨trivial, ?_⟩
  refine (callsIn_wide.2 (new_any _)).mono ?_
  rintro z W2 ⟨rfl, tb, s2, hb2⟩
  obtain ⟨t, ht⟩ : ∃ t, t = W1.heap.size := ⟨_, rfl⟩
  rw [← ht] at tb s2 ⊢
  have hlt : w.heap.size + 1 < t := by rw [ht]; exact H1.out.2.2.lt
  have M3 : MF (fun i => t < i) w (.slice am M cm) t [] (W2.alloc (.cells #[.pointer (some ⟨t, 0, none⟩)] 24)) := by
    have b3 : Below W2.heap.size W2 (W2.alloc (.cells #[.pointer (some ⟨t, 0, none⟩)] 24)) := (Below.refl _ _).alloc (Nat.le_refl _) _
    have b4 : Below W1.heap.size W1 (W2.alloc (.cells #[.pointer (some ⟨t, 0, none⟩)] 24)) := hb2.trans (b3.mono hb2.size)
    refine ⟨H1.out.2.1.keep (b4.block _ H1.out.2.1.lt), H1.out.2.2.keep (b4.block _ H1.out.2.2.lt), hlt, ?_, ⟨0, by omega, List.Pairwise.nil, by simp, by simp, none, .leaf, tb.later b3, rfl, rfl⟩, H1.out.1.trans (b4.mono H1.out.1.size), fun i hi => by rw [World.size_alloc] at hi; omega⟩
    have := Bxd.new W2 24 (.pointer (some ⟨t, 0, none⟩))
    rwa [s2] at this
  have HM3 : Hid (MF (fun i => t < i) w (.slice am M cm) t [] (W2.alloc (.cells #[.pointer (some ⟨t, 0, none⟩)] 24))) := M3
  clear M3 tb hb2 H1 ht
  gi_wp2
  gi_loopw [6] (fun i wr => ∃ (j : Nat) (L : List EntD), i = .int .i64 (j : Int) ∧ j ≤ 60 ∧ Hid (MF (fun i => t < i) w (.slice am M cm) t L wr ∧ L.length ≤ j)) (fun i _ => 60 - (intOf i).toNat)
  case atStart => exact ⟨0, [], rfl, Nat.zero_le _, HM3.out, Nat.le_refl _⟩
  case round =>
    obtain ⟨j, L, rfl, hj, HI⟩ := hrel
    by_cases hjN : j < 60
    · have hjN' : (j : Int) < (60 : Int) := by omega
      have hj0 : (0 : Int) ≤ (j : Int) := by omega
      obtain ⟨x, hx⟩ : ∃ x, (ls.take 60)[j]? = some x := ⟨_, List.getElem?_eq_getElem (by rw [HNL.out]; exact hjN)⟩
      obtain ⟨hox, b, off, rfl, hcs⟩ := HLS.out j x hx
      have hcs1 := hcs.later HI.out.1.below
      have HAd : Hid (∀ Z, Below wr.heap.size wr Z → Calls Try.prog 9 #[.pointer (some ⟨t, 0, none⟩), .agg #[x.vr, .int .i64 x.fam, x.vq, .int .i64 x.ts, .int .i64 x.seq, .int .i64 x.kind, x.vv]] Z fun z w' => ∃ c : Int, z = .returned (.int .i64 c) ∧ Apart t Z w' ∧ KU Z w' ∧ ∃ L', L.Sublist L' ∧ L'.length ≤ L.length + 1 ∧ MF (fun i => t < i) w (.slice am M cm) t L' w') := fun Z b => MF.add (HI.out.1.later b) ((hox.later HI.out.1.below).later b) (by have := HI.out.2; omega)
      obtain ⟨c0, c1, c2, c3, c4, c5, c6⟩ := hcs1
      have kc := HI.out.1.ptr.cell
      have D0 : Below wr.heap.size wr wr.drew := (Below.refl _ _).drew
      clear hcs hox
      gi_wp2_with fail
      refine wpIn_noPanic ?_
      gi_region_with_o (refine ⟨trivial, ?_⟩; gi_at_call 9; refine (callsIn_wide.2 (HAd.out _ D0)).mono ?_; rintro z w4 ⟨c, rfl, hap, hku, L', hsub, hl', hmf⟩)
      all_goals
        refine NoPanic.normal ?_
        gi_wp2
        go_roundw
        case rel => exact ⟨j + 1, L', by go_num, by omega, hmf, by have := HI.out.2; omega⟩
        case measure => simp [intOf]; omega
    · have hjE : j = 60 := by omega
      subst hjE
      obtain ⟨kk, hkk⟩ := HI.out.1.tab
      have HRo : Hid (Calls _ _ _ _ _) := rows_any hkk (by have := HI.out.2; omega)
      have kc := HI.out.1.ptr.cell
      clear hkk HM3
      gi_wp2_with fail
      refine ⟨trivial, ?_⟩
      refine (callsIn_wide.2 HRo.out).mono ?_
      rintro z W5 ⟨wv0, xs, rfl, row5, sm5, ent5, hb5⟩
      obtain ⟨aw, nw, cw, rfl⟩ : ∃ a0 n0 c0, wv0 = .slice a0 n0 c0 := by
        rcases row5.2 with ⟨rfl, _⟩ | ⟨g, cap, cur, rfl, _⟩
        · exact ⟨_, _, _, rfl⟩
        · exact ⟨_, _, _, rfl⟩
      have hnw : nw = xs.length := by
        rcases row5.2 with ⟨e, h0⟩ | ⟨g, cap, cur, e, _⟩
        · cases e; exact h0.symm
        · cases e; rfl
      have HX5 : Hid (MF (fun i => t < i) w (.slice am M cm) t L W5 ∧ W5.ownsRow wr.heap.size 30 7 (.slice aw nw cw) xs.length (evals xs) ∧ Sm xs L ∧ (∀ x ∈ xs, EOk (fun i => wr.heap.size ≤ i) W5 x) ∧ Below wr.heap.size wr W5 ∧ nw = xs.length) := ⟨HI.out.1.later hb5, row5, sm5, ent5, hb5, hnw⟩
      clear row5 sm5 ent5 hb5 HRo hnw
      have v1 := (Below.refl W5.heap.size W5).alloc (Nat.le_refl _) (.cells #[.slice aw nw cw] 22)
      have v2 := v1.alloc v1.size (.cells #[.int .i64 0] 3)
      have z1 : Bxd ((W5.alloc (.cells #[.slice aw nw cw] 22)).alloc (.cells #[.int .i64 0] 3)) W5.heap.size 22 (.slice aw nw cw) := (Bxd.new W5 _ _).keep (Below.heap_alloc _ _ _ (by simp))
      have z2 : Bxd ((W5.alloc (.cells #[.slice aw nw cw] 22)).alloc (.cells #[.int .i64 0] 3)) (W5.heap.size + 1) 3 (.int .i64 0) := by
        have := Bxd.new (W5.alloc (.cells #[.slice aw nw cw] 22)) 3 (.int .i64 0)
        rwa [World.size_alloc] at this
      have z3 : ((W5.alloc (.cells #[.slice aw nw cw] 22)).alloc (.cells #[.int .i64 0] 3)).heap.size = W5.heap.size + 2 := by simp
      have M6 := HX5.out.1.later v2
      have kc6 := M6.ptr.cell
      have HV6 : Hid (Below W5.heap.size W5 _ ∧ Bxd _ W5.heap.size 22 (.slice aw nw cw) ∧ Bxd _ (W5.heap.size + 1) 3 (.int .i64 0) ∧ _ = W5.heap.size + 2) := ⟨v2, z1, z2, z3⟩
      clear v1 v2 z1 z2 z3 M6
      gi_wp2_with fail
      refine ⟨trivial, ?_⟩
      refine (callsIn_wide.2 (all_any _ _)).mono ?_
      rintro z W7 ⟨rfl, rfl⟩
      gi_wp2_with fail
      obtain ⟨vB, q1, q2, q3⟩ := HV6.out
      have u1 := (Below.refl _ ((W5.alloc (.cells #[.slice aw nw cw] 22)).alloc (.cells #[.int .i64 0] 3))).alloc (Nat.le_refl _) (.cells #[.pointer (some ⟨t, 0, none⟩)] 24)
      have x2 := Bxd.new ((W5.alloc (.cells #[.slice aw nw cw] 22)).alloc (.cells #[.int .i64 0] 3)) 24 (.pointer (some ⟨t, 0, none⟩))
      have bV := vB.trans (u1.mono (by rw [q3]; omega))
      have sV : (((W5.alloc (.cells #[.slice aw nw cw] 22)).alloc (.cells #[.int .i64 0] 3)).alloc (.cells #[.pointer (some ⟨t, 0, none⟩)] 24)).heap.size = W5.heap.size + 3 := by simp
      have w1 := q1.keep (u1.block _ q1.lt)
      have w2 := q2.keep (u1.block _ q2.lt)
      rw [q3] at x2
      clear vB q1 q2 q3 u1 HV6 kc6
      generalize ((W5.alloc (.cells #[.slice aw nw cw] 22)).alloc (.cells #[.int .i64 0] 3)).alloc (.cells #[.pointer (some ⟨t, 0, none⟩)] 24) = V at *
      obtain ⟨m5, row5, sm5, ent5, hb5, hnw⟩ := HX5.out
      have tlt := m5.size
      have MV : MF (fun i => t < i ∧ i ≠ W5.heap.size + 1) w (.slice am M cm) t L V := m5.spare (by omega) bV (by omega)
      have wrlt : t + 2 ≤ wr.heap.size := HI.out.1.size
      have WV : Wa t W5.heap.size (.slice aw nw cw) xs V := ⟨w1, ownsRow_below (ownsRow_mono row5 wrlt) bV, fun x hx => ((ent5 x hx).mono (fun i hi => by omega)).kept (KpG.of bV)⟩
      obtain ⟨kk, hkk⟩ := m5.tab
      obtain ⟨p, T, t1, t2, t3⟩ := hkk.tree
      have hT2 : IsT (fun i => t < i ∧ i < W5.heap.size) V p T := t2.lt.kept (KpG.of bV)
      have hlens := hkk.lens
      have hwt := m5.lt
      have hLlen : L.length ≤ 60 := by have := HI.out.2; omega
      have HLX : Hid (xs.length = L.length ∧ nw = xs.length ∧ Sm xs L ∧ T.ord = L) := ⟨sm5.len, hnw, sm5, t3⟩
      have Itu : ∀ (pre : List EntD) (X Z : World), V.heap.size ≤ X.heap.size → (∃ L1, MF (fun i => t < i ∧ i ≠ W5.heap.size + 1) w (.slice am M cm) t L1 X ∧ L.Sublist L1 ∧ L1.length ≤ 60 + 20 * pre.length ∧ Wa t W5.heap.size (.slice aw nw cw) xs X ∧ Bxd X (W5.heap.size + 1) 3 (.int .i64 (pre.length : Int)) ∧ V.heap.size ≤ X.heap.size) → Turn V.heap.size X Z → ∃ L1, MF (fun i => t < i ∧ i ≠ W5.heap.size + 1) w (.slice am M cm) t L1 Z ∧ L.Sublist L1 ∧ L1.length ≤ 60 + 20 * pre.length ∧ Wa t W5.heap.size (.slice aw nw cw) xs Z ∧ Bxd Z (W5.heap.size + 1) 3 (.int .i64 (pre.length : Int)) ∧ V.heap.size ≤ Z.heap.size := fun pre X Z hX ⟨L1, k1, k2, k3, k4, k5, k6⟩ tu => ⟨L1, k1.turn tu (by omega), k2, k3, k4.turn tu, k5.turn tu, Nat.le_trans k6 tu.below.size⟩
      have HSV : Hid (V.heap.size = W5.heap.size + 3) := sV
      have hseq := all_seq x2 (t1.later bV) hT2 (by rw [t3]; exact hlens)
      clear hnw sm5 hlens row5 ent5 hb5 t1 t2 hkk HX5 x2 bV w1 hT2 sV
      refine range_wide (w := V) rfl (enters_of Try.func35 (by kernel_rfl) rfl) (encs := fun x : EntD => #[.agg x.cells]) hseq (fun h k => h.trans k) (fun X o o' ho hc => KpO.put o o' (Nat.lt_succ_self _) ho hc) (fun _ => rfl)
        (fun pre X => ∃ L1, MF (fun i => t < i ∧ i ≠ W5.heap.size + 1) w (.slice am M cm) t L1 X ∧ L.Sublist L1 ∧ L1.length ≤ 60 + 20 * pre.length ∧ Wa t W5.heap.size (.slice aw nw cw) xs X ∧ Bxd X (W5.heap.size + 1) 3 (.int .i64 (pre.length : Int)) ∧ V.heap.size ≤ X.heap.size)
        (fun c pre X => False)
        (fun s X h => h.choose_spec.2.2.2.2.2)
        Itu
        (fun c s X Z hX h tu => h)
        ⟨L, MV, List.Sublist.refl _, by simp; omega, WV, w2, Nat.le_refl _⟩
        (fun pre x a' X => ∃ Bx, V.heap.size + 6 ≤ Bx ∧ EBox X Bx x ∧ NxC T.ord (V.heap.size + 2) pre x X ∧ a' = { tmps := #[Value.slice al 60 cl, Value.slice am M cm, undef, Value.pointer (some ⟨w.heap.size, 0, none⟩), Value.pointer (some ⟨w.heap.size + 1, 0, none⟩), Value.pointer (some ⟨t + 1, 0, none⟩), Value.int IntKind.i64 60, Value.pointer (some ⟨W5.heap.size, 0, none⟩), Value.pointer (some ⟨W5.heap.size + 1, 0, none⟩), .pointer (some ⟨Bx, 0, none⟩), undef, undef, undef, undef, undef, Value.bool true, Value.bool false, Value.slice al N0 cl, Value.int IntKind.i64 ↑N0, Value.bool true, Value.slice al N0 cl, Value.slice al 60 cl, Value.pointer (some ⟨t, 0, none⟩), Value.int IntKind.i64 60, Value.slice al 60 cl, Value.int IntKind.i64 60, Value.bool false, u27, u28, u29, u30, u31, u32, u33, u34, Value.pointer (some ⟨t, 0, none⟩), Value.slice aw nw cw, Value.pointer (some ⟨t, 0, none⟩), Value.func (Fn.func 35) #[] #[Value.pointer (some ⟨W5.heap.size + 1 + 1, 0, none⟩)], .agg x.cells, undef, undef, undef, undef, undef, undef, undef, undef, undef, undef, undef, undef, undef, undef, undef, undef, undef, undef, undef, undef, undef, undef, undef, undef, undef, undef, undef, undef, undef, undef, undef, undef, undef, undef, undef, undef, undef, undef, undef, undef, undef, undef, undef, undef, undef, undef, undef, undef, undef, undef, undef, undef, undef, undef, undef, undef, undef, undef, undef, undef, undef, undef, undef, undef, undef, undef, undef, undef, undef, undef, undef, undef, undef, undef, undef, undef, undef], defers := [] })
        (fun pre x a' _ X Z hX ⟨Bx, k0, k1, k2, k3⟩ tu => ⟨Bx, k0, tu.cells _ _ k1 rfl, ⟨Nat.le_trans k2.1 tu.below.size, k2.2.1, k2.2.2.keptC tu.toC⟩, k3⟩)
        ?assign ?body ?done ?stop (fun c s X h => h.elim)
      case assign =>
        intro l' pre x X K hi hsX hgd hK
        have hsX' : V.heap.size + 6 ≤ X.heap.size := hgd.1
        obtain ⟨vr, fam, vq, ts, seq, kind, vv, row, qual, val⟩ := x
        have r1' : Rd X vr row := hgd.2.2.1.1
        have r2' : Rd X vq qual := hgd.2.2.2.1.1
        have r3' : Rd X vv val := hgd.2.2.2.2.1
        obtain ⟨ar, nr, cr, rfl⟩ := rd_slice r1'
        obtain ⟨aq, nq, cq, rfl⟩ := rd_slice r2'
        obtain ⟨av, nv, cv, rfl⟩ := rd_slice r3'
        have hbb := (Below.refl X.heap.size X).alloc (Nat.le_refl _) (.cells (EntD.mk (.slice ar nr cr) fam (.slice aq nq cq) ts seq kind (.slice av nv cv) row qual val).cells 30)
        have tu := Turn.of (B := V.heap.size) hbb (by omega)
        have HIt : Hid (∃ L1, _) := Itu pre _ _ (by omega) hi tu
        have HNx : Hid (NxC T.ord (V.heap.size + 2) pre _ _) := ⟨Nat.le_trans hgd.1 tu.below.size, hgd.2.1, hgd.2.2.keptC tu.toC⟩
        have HT : Hid (KpO (fun i => t < i ∧ i < W5.heap.size) (V.heap.size + 2) X _) := ⟨tu.toC, Oth.of hbb⟩
        have HX : Hid (EBox (X.alloc (.cells (EntD.mk (.slice ar nr cr) fam (.slice aq nq cq) ts seq kind (.slice av nv cv) row qual val).cells 30)) X.heap.size _) := EBox.new X _
        clear hbb tu hi hgd r1' r2' r3' Itu t3 hseq
        simp only [EntD.cells] at *
        gi_wp2
        exact hK _ _ ((KeepsOthers.alloc _ _).from _) HT.out HIt.out ⟨X.heap.size, hsX', HX.out, HNx.out, rfl⟩
      case body =>
        rintro l' pre x a' X ⟨L1, k1, k2, k3, k4, k5, k6⟩ ⟨Bx, hBx, bx, hnx, rfl⟩
        obtain ⟨n, hn⟩ : ∃ n, n = pre.length := ⟨_, rfl⟩
        have hnl : n < L.length := by
          obtain ⟨q, hq1, hq2⟩ := hnx.2.1
          have e1 := hq2.len
          have e2 := hq1.length_le
          rw [HLX.out.2.2.2] at e2
          simp at e1
          omega
        have HWn : Hid (wrap64 ((n : Int) + 1) = (n : Int) + 1 ∧ IntKind.i64.wrap ((n : Int) + 1) = (n : Int) + 1) := ⟨wrap64_ok _ (by omega) (by omega), wrap_ok _ (by omega) (by omega)⟩
        obtain ⟨y, hy⟩ : ∃ y, xs[n]? = some y := ⟨_, List.getElem?_eq_getElem (by rw [HLX.out.1]; exact hnl)⟩
        have hsame : EntD.Same x y := by
          obtain ⟨q, ⟨r, hr⟩, hq2⟩ := hnx.2.1
          have e1 := hq2.len
          simp at e1
          have hql : n < q.length := by omega
          have e2 := hq2.get n x (q[n]) (by rw [hn]; simp) (List.getElem?_eq_getElem hql)
          have e3 := HLX.out.2.2.1.get n y (L[n]) hy (List.getElem?_eq_getElem hnl)
          have e4 : L[n] = q[n] := by
            have h5 : L[n]? = q[n]? := by rw [← HLX.out.2.2.2, ← hr, List.getElem?_append_left hql]
            rw [List.getElem?_eq_getElem hnl, List.getElem?_eq_getElem hql] at h5
            exact Option.some.inj h5
          exact e2.trans (e4 ▸ e3.symm)
        obtain ⟨gw, capw0, ewv, hgw, hcsw⟩ := row_cells k4.row hy
        cases ewv
        have hnw' : (n : Int) < (xs.length : Int) := by rw [HLX.out.1]; omega
        have hn0 : (0 : Int) ≤ (n : Int) := by omega
        have d1 : decide ((xs.length : Int) ≤ (n : Int)) = false := by simp; omega
        have d2 : decide (xs.length ≤ n) = false := by simp; omega
        rw [← hn] at k5
        have HI2 : Hid (MF (fun i => t < i ∧ i ≠ W5.heap.size + 1) w (.slice am M cm) t L1 X ∧ L.Sublist L1 ∧ L1.length ≤ 60 + 20 * n ∧ Wa t W5.heap.size (.slice (some ⟨gw, 0, none⟩) xs.length cw) xs X ∧ Bxd X (W5.heap.size + 1) 3 (.int .i64 (n : Int)) ∧ V.heap.size ≤ X.heap.size ∧ n = pre.length) := ⟨k1, k2, by rw [hn]; exact k3, k4, k5, k6, hn⟩
        have HSe : Hid (∀ Z, Below X.heap.size X Z → Calls Try.prog 12 #[.agg #[x.vr, .int .i64 x.fam, x.vq, .int .i64 x.ts, .int .i64 x.seq, .int .i64 x.kind, x.vv], .agg #[y.vr, .int .i64 y.fam, y.vq, .int .i64 y.ts, .int .i64 y.seq, .int .i64 y.kind, y.vv]] Z fun r w' => r = .returned (.bool true) ∧ Below Z.heap.size Z w') := fun Z b => by
          refine (se_any (hnx.2.2.ok.later b) ((k4.ents y (List.mem_of_getElem? hy)).ok.later b)).mono ?_
          rintro r w' ⟨rfl, hb⟩
          rw [decide_eq_true hsame]
          exact ⟨rfl, hb⟩
        have nc := k5.cell
        have wc := k4.box.cell
        obtain ⟨c0, c1, c2, c3, c4, c5, c6⟩ := (⟨bx.vr, bx.fam, bx.vq, bx.ts, bx.seq, bx.kind, bx.vv⟩ : _ ∧ _ ∧ _ ∧ _ ∧ _ ∧ _ ∧ _)
        obtain ⟨e0, e1, e2, e3, e4, e5, e6⟩ := hcsw
        have D0 : Below X.heap.size X X.drew := (Below.refl _ _).drew
        unfold EntD.cells
        clear k1 k2 k3 k4 k5 k6 hn hnx hsame hseq MV WV w2 Itu t3 bx
        gi_wp2_with fail
        refine wpIn_mono (Q := fun e a' w' => match e with | .normal => a' = ({ tmps := #[Value.slice al 60 cl, Value.slice am M cm, undef, Value.pointer (some ⟨w.heap.size, 0, none⟩), Value.pointer (some ⟨w.heap.size + 1, 0, none⟩), Value.pointer (some ⟨t + 1, 0, none⟩), Value.int IntKind.i64 60, Value.pointer (some ⟨W5.heap.size, 0, none⟩), Value.pointer (some ⟨W5.heap.size + 1, 0, none⟩), .pointer (some ⟨Bx, 0, none⟩), undef, undef, undef, undef, undef, Value.bool true, Value.bool false, Value.slice al N0 cl, Value.int IntKind.i64 ↑N0, Value.bool true, Value.slice al N0 cl, Value.slice al 60 cl, Value.pointer (some ⟨t, 0, none⟩), Value.int IntKind.i64 60, Value.slice al 60 cl, Value.int IntKind.i64 60, Value.bool false, u27, u28, u29, u30, u31, u32, u33, u34, Value.pointer (some ⟨t, 0, none⟩), .slice (some ⟨gw, 0, none⟩) xs.length cw, Value.pointer (some ⟨t, 0, none⟩), Value.func (Fn.func 35) #[] #[Value.pointer (some ⟨W5.heap.size + 1 + 1, 0, none⟩)], .agg #[x.vr, .int .i64 x.fam, x.vq, .int .i64 x.ts, .int .i64 x.seq, .int .i64 x.kind, x.vv], .int .i64 (n : Int), .slice (some ⟨gw, 0, none⟩) xs.length cw, .int .i64 (xs.length : Int), .bool false, .bool false, .agg #[x.vr, .int .i64 x.fam, x.vq, .int .i64 x.ts, .int .i64 x.seq, .int .i64 x.kind, x.vv], .slice (some ⟨gw, 0, none⟩) xs.length cw, .int .i64 (n : Int), .pointer (some ⟨gw, n * 7, none⟩), .agg #[y.vr, .int .i64 y.fam, y.vq, .int .i64 y.ts, .int .i64 y.seq, .int .i64 y.kind, y.vv], .bool true, .bool false, .bool false, undef, undef, undef, undef, undef, undef, undef, undef, undef, undef, undef, undef, undef, undef, undef, undef, undef, undef, undef, undef, undef, undef, undef, undef, undef, undef, undef, undef, undef, undef, undef, undef, undef, undef, undef, undef, undef, undef, undef, undef, undef, undef, undef, undef, undef, undef, undef, undef, undef, undef, undef, undef, undef, undef, undef, undef, undef, undef, undef, undef, undef, undef, undef, undef], defers := [] } : Act) ∧ Below X.heap.size X w' | _ => False) ?_ ?_
        · gi_region_with_o (refine ⟨trivial, ?_⟩; gi_at_call 12; refine (CallsIn.inRound l' (callsIn_wide.2 (HSe.out _ D0))).mono ?_; rintro z w1 ⟨rfl, hb1⟩; have D1 := D0.trans (hb1.mono D0.size))
          all_goals exact ⟨rfl, D1⟩
        · rintro e a' Y hq
          cases e with
          | normal =>
            obtain ⟨rfl, hbY⟩ := hq
            have HIY : Hid (MF (fun i => t < i ∧ i ≠ W5.heap.size + 1) w (.slice am M cm) t L1 Y ∧ L.Sublist L1 ∧ L1.length ≤ 60 + 20 * n ∧ Wa t W5.heap.size (.slice (some ⟨gw, 0, none⟩) xs.length cw) xs Y ∧ Bxd Y (W5.heap.size + 1) 3 (.int .i64 (n : Int)) ∧ V.heap.size ≤ Y.heap.size ∧ n = pre.length) := ⟨HI2.out.1.later hbY, HI2.out.2.1, HI2.out.2.2.1, HI2.out.2.2.2.1.later hbY, HI2.out.2.2.2.2.1.keep (hbY.block _ HI2.out.2.2.2.2.1.lt), Nat.le_trans HI2.out.2.2.2.2.2.1 hbY.size, HI2.out.2.2.2.2.2.2⟩
            have HXt : Hid (MF (fun i => t < i ∧ i ≠ W5.heap.size + 1) w (.slice am M cm) t L1 X ∧ Bxd X (W5.heap.size + 1) 3 (.int .i64 (n : Int))) := ⟨HI2.out.1, HI2.out.2.2.2.2.1⟩
            have HBY : Hid (Below X.heap.size X Y ∧ V.heap.size + 6 < X.heap.size) := ⟨hbY, Nat.lt_of_le_of_lt hBx (World.block_lt_of_cell? _ _ c0)⟩
            clear nc wc c0 c1 c2 c3 c4 c5 c6 e0 e1 e2 e3 e4 e5 e6 D0 HSe hbY d1 d2 HI2
            gi_wp2
            gi_loopw [10] (fun k wz => ∃ (q : Nat) (L2 : List EntD), k = .int .i64 (q : Int) ∧ q ≤ M ∧ q ≤ 20 ∧ Hid (MF (fun i => t < i ∧ i ≠ W5.heap.size + 1) w (.slice am M cm) t L2 wz ∧ L.Sublist L2 ∧ L2.length ≤ 60 + 20 * n + q ∧ Wa t W5.heap.size (.slice (some ⟨gw, 0, none⟩) xs.length cw) xs wz ∧ Bxd wz (W5.heap.size + 1) 3 (.int .i64 (n : Int)) ∧ Two t (W5.heap.size + 1) X wz)) (fun k _ => 20 - (intOf k).toNat)
            case atStart => exact ⟨0, L1, rfl, Nat.zero_le _, by omega, HIY.out.1, HIY.out.2.1, HIY.out.2.2.1, HIY.out.2.2.2.1, HIY.out.2.2.2.2.1, Two.of HBY.out.1⟩
            case round =>
              obtain ⟨q, L2, rfl, hqM, hq20, HQ⟩ := hrel
              have mc := HQ.out.1.more.cell
              have nc := HQ.out.2.2.2.2.1.cell
              have nf := HQ.out.2.2.2.2.1.fz
              have hwt2 : t + 2 ≤ wr.heap.size := HQ.out.1.size
              by_cases hgo : q < M ∧ q < 20
              · obtain ⟨hq1, hq2⟩ := hgo
                have g1 : (q : Int) < (M : Int) := by omega
                have g2 : (q : Int) < 20 := by omega
                have g0 : (0 : Int) ≤ (q : Int) := by omega
                obtain ⟨m, hm⟩ : ∃ m, ms[q]? = some m := ⟨_, List.getElem?_eq_getElem (by rw [HML.out]; exact hq1)⟩
                obtain ⟨hom, bm, om, rfl, hcm⟩ := HMS.out q m hm
                have hcm1 := hcm.later HQ.out.1.below
                have hom1 := hom.later HQ.out.1.below
                obtain ⟨vr, fam, vq, ts, seq, kind, vv, row, qual, val⟩ := m
                obtain ⟨ar, nr, cr, er⟩ := rd_slice hom1.1
                obtain ⟨aq, nq, cq, eq⟩ := rd_slice hom1.2.1
                obtain ⟨av, nv, cv, ev⟩ := rd_slice hom1.2.2
                simp only at er eq ev
                subst er eq ev
                obtain ⟨sq, hsq⟩ : ∃ sq, sq = wrap64 (seq + (n : Int)) := ⟨_, rfl⟩
                have hbz : Below wr.heap.size wr (wr.alloc (.cells #[.slice ar nr cr, .int .i64 fam, .slice aq nq cq, .int .i64 ts, .int .i64 sq, .int .i64 kind, .slice av nv cv] 30)) := (Below.refl _ wr).alloc (Nat.le_refl _) _
                have HAd : Hid (Calls Try.prog 9 #[.pointer (some ⟨t, 0, none⟩), .agg #[.slice ar nr cr, .int .i64 fam, .slice aq nq cq, .int .i64 ts, .int .i64 sq, .int .i64 kind, .slice av nv cv]] _ _) := MF.add (e := ⟨.slice ar nr cr, fam, .slice aq nq cq, ts, sq, kind, .slice av nv cv, row, qual, val⟩) (HQ.out.1.later hbz) ⟨hom1.1.later hbz, hom1.2.1.later hbz, hom1.2.2.later hbz⟩ (by have := HQ.out.2.2.1; omega)
                have HBZ : Hid (Below wr.heap.size wr (wr.alloc (.cells #[.slice ar nr cr, .int .i64 fam, .slice aq nq cq, .int .i64 ts, .int .i64 sq, .int .i64 kind, .slice av nv cv] 30))) := hbz
                have pc : (wr.alloc (.cells #[.slice ar nr cr, .int .i64 fam, .slice aq nq cq, .int .i64 ts, .int .i64 sq, .int .i64 kind, .slice av nv cv] 30)).cell? ⟨t + 1, 0, none⟩ = some (.pointer (some ⟨t, 0, none⟩)) := (HQ.out.1.later hbz).ptr.cell
                obtain ⟨c0, c1, c2, c3, c4, c5, c6⟩ := hcm1
                simp only at c0 c1 c2 c3 c4 c5 c6
                have nb : W5.heap.size + 1 < wr.heap.size := HQ.out.2.2.2.2.1.lt
                have nb2 : W5.heap.size + 1 ≠ wr.heap.size := by omega
                rw [hsq] at HAd HBZ pc
                clear hbz hom hcm hom1 hm hsq
                gi_wp2_with fail
                refine ⟨trivial, ?_⟩
                refine (CallsIn.inRound l' (callsIn_wide.2 HAd.out)).mono ?_
                rintro z W9 ⟨cc, rfl, hap, hku, L3, hs3, hl3', hmf⟩
                have HQ9 : Hid (MF (fun i => t < i ∧ i ≠ W5.heap.size + 1) w (.slice (some ⟨bm, om, none⟩) M cm) t L3 W9 ∧ L.Sublist L3 ∧ L3.length ≤ 60 + 20 * n + (q + 1) ∧ Wa t W5.heap.size (.slice (some ⟨gw, 0, none⟩) xs.length cw) xs W9 ∧ Bxd W9 (W5.heap.size + 1) 3 (.int .i64 (n : Int)) ∧ Two t (W5.heap.size + 1) X W9) := by
                  have b9 := HBZ.out
                  have x9 := HQ.out.2.2.2.2.1.keep (b9.block _ HQ.out.2.2.2.2.1.lt)
                  refine ⟨hmf, HQ.out.2.1.trans hs3, by have := HQ.out.2.2.1; omega, (HQ.out.2.2.2.1.later b9).apart hap hku (by omega), x9.keep (hap.block _ x9.lt (by omega)), HQ.out.2.2.2.2.2.trans ((Two.of b9).trans (Two.apart hap))⟩
                clear hap hku hs3 hl3' hmf HAd HBZ pc
                gi_wp2
                go_roundw
                case rel => exact ⟨q + 1, L3, by go_num, by omega, by omega, HQ9.out⟩
                case measure => simp [intOf]; omega
              · have HEnd : Hid (KeepsFrom V.heap.size X (wr.setCell ⟨W5.heap.size + 1, 0, none⟩ (.int .i64 ((n : Int) + 1))) ∧ KpO (fun i => t < i ∧ i < W5.heap.size) (V.heap.size + 2) X (wr.setCell ⟨W5.heap.size + 1, 0, none⟩ (.int .i64 ((n : Int) + 1))) ∧ ∃ L1, MF (fun i => t < i ∧ i ≠ W5.heap.size + 1) w (.slice am M cm) t L1 (wr.setCell ⟨W5.heap.size + 1, 0, none⟩ (.int .i64 ((n : Int) + 1))) ∧ L.Sublist L1 ∧ L1.length ≤ 60 + 20 * (pre ++ [x]).length ∧ Wa t W5.heap.size (.slice (some ⟨gw, 0, none⟩) xs.length cw) xs (wr.setCell ⟨W5.heap.size + 1, 0, none⟩ (.int .i64 ((n : Int) + 1))) ∧ Bxd (wr.setCell ⟨W5.heap.size + 1, 0, none⟩ (.int .i64 ((n : Int) + 1))) (W5.heap.size + 1) 3 (.int .i64 ((pre ++ [x]).length : Int)) ∧ V.heap.size ≤ (wr.setCell ⟨W5.heap.size + 1, 0, none⟩ (.int .i64 ((n : Int) + 1))).heap.size) := by
                  obtain ⟨z1, z2, z3, z4, z5, z6⟩ := HQ.out
                  have y6 := z6.trans (Two.set (a := t) (b := W5.heap.size + 1) 0 (.int .i64 ((n : Int) + 1)))
                  have hpl : (pre ++ [x]).length = n + 1 := by rw [List.length_append, HIY.out.2.2.2.2.2.2]; rfl
                  have hXV : V.heap.size + 6 < X.heap.size := HBY.out.2
                  have hVs := HSV.out
                  obtain ⟨kt, hkt⟩ := HXt.out.1.tab
                  obtain ⟨pt, Tt, tbt, -, -⟩ := hkt.tree
                  have hko := y6.others tbt HXt.out.2 rfl rfl
                  refine ⟨hko.from _, ⟨⟨y6.size, fun i o hi ho hg => (y6.block i (Array.getElem?_eq_some_iff.1 hi).1 (by omega) (by omega)).trans hi⟩, y6.size, fun i o _ hi ho => hko.same i o hi ho⟩, L2, z1.set (fun hh => hh.2 rfl) (by omega) 0 _, z2, by rw [hpl]; omega, z4.set z5 ⟨by decide, by decide⟩ (by omega) _, by rw [hpl]; exact z5.set _, by have := y6.size; omega⟩
                have hwn := HWn.out.1
                have hwn2 := HWn.out.2
                by_cases hqM' : q < M
                · have g1 : (q : Int) < (M : Int) := by omega
                  have g2 : ¬ ((q : Int) < 20) := by omega
                  gi_wp2
                  exact HEnd.out
                · have g1 : ¬ ((q : Int) < (M : Int)) := by omega
                  gi_wp2
                  exact HEnd.out
          | panic c => exact hq.elim
          | ret => exact hq.elim
          | exit id => exact hq.elim
          | goto t => exact hq.elim
          | outgrown => exact hq.elim
      case done =>
        rintro D ys X hD hsm ⟨L1, k1, k2, k3, k4, k5, k6⟩ hdf
        have hyn : ys.length = nw := by rw [hsm.len, HLX.out.2.2.2, HLX.out.2.1, HLX.out.1]
        rw [hyn] at k5 k3
        have HD : Hid (MF (fun i => t < i ∧ i ≠ W5.heap.size + 1) w (.slice am M cm) t L1 X ∧ L.Sublist L1 ∧ L1.length ≤ 60 + 20 * nw ∧ Wa t W5.heap.size (.slice aw nw cw) xs X ∧ V.heap.size ≤ X.heap.size ∧ X.heap[D]? = some (.deferred (some [])) ∧ V.heap.size ≤ D) := ⟨k1, k2, k3, k4, k6, hdf, hD⟩
        obtain ⟨kq, hkq⟩ := k1.tab
        have hnw60 : nw ≤ 60 := by rw [HLX.out.2.1, HLX.out.1]; exact hLlen
        have HRo : Hid (Calls _ _ _ _ _) := rows_any hkq (by omega)
        have nc := k5.cell
        have wc := k4.box.cell
        have pc := k1.ptr.cell
        clear hsm hyn k1 k2 k3 k4 k5 k6 hdf hkq MV WV w2 Itu t3 hseq
        gi_wp2_with fail
        refine ⟨trivial, ?_⟩
        refine (callsIn_wide.2 HRo.out).mono ?_
        rintro z Y ⟨nv0, zs, rfl, rowz, smz, entz, hbz⟩
        obtain ⟨an, nn, cn, rfl⟩ : ∃ a0 n0 c0, nv0 = .slice a0 n0 c0 := by
          rcases rowz.2 with ⟨rfl, _⟩ | ⟨g, cap, cur, rfl, _⟩
          · exact ⟨_, _, _, rfl⟩
          · exact ⟨_, _, _, rfl⟩
        have hnn : nn = zs.length := by
          rcases rowz.2 with ⟨e, h0⟩ | ⟨g, cap, cur, e, _⟩
          · cases e; exact h0.symm
          · cases e; rfl
        have HY : Hid (MF (fun i => t < i ∧ i ≠ W5.heap.size + 1) w (.slice am M cm) t L1 Y ∧ Wa t W5.heap.size (.slice aw nw cw) xs Y ∧ Y.ownsRow X.heap.size 30 7 (.slice an nn cn) zs.length (evals zs) ∧ (∀ z ∈ zs, EOk (fun i => X.heap.size ≤ i) Y z) ∧ Y.heap[D]? = some (.deferred (some [])) ∧ nn = zs.length ∧ zs.length = L1.length ∧ Emb xs zs ∧ V.heap.size ≤ D) := ⟨HD.out.1.later hbz, HD.out.2.2.2.1.later hbz, rowz, entz, (hbz.block _ (Array.getElem?_eq_some_iff.1 HD.out.2.2.2.2.2.1).1).trans HD.out.2.2.2.2.2.1, hnn, smz.len, Emb.of HD.out.2.1 HLX.out.2.2.1 smz, HD.out.2.2.2.2.2.2⟩
        have hnnL : nn ≤ 2000 := by rw [hnn, smz.len]; have := HD.out.2.2.1; omega
        clear rowz smz entz hbz hnn HD HRo nc wc pc
        gi_wp2
        gi_loopw [13, 14] (fun kk ii wz => ∃ (a b : Nat), kk = .int .i64 (a : Int) ∧ ii = .int .i64 (b : Int) ∧ a ≤ nw ∧ b ≤ nn ∧ Hid (Emb (xs.drop a) (zs.drop b) ∧ Below Y.heap.size Y wz)) (fun _ ii _ => nn - (intOf ii).toNat)
        case atStart => exact ⟨0, 0, rfl, rfl, Nat.zero_le _, Nat.zero_le _, HY.out.2.2.2.2.2.2.2.1, Below.refl _ _⟩
        case round =>
          obtain ⟨a, b, rfl, rfl, ha, hb, HR⟩ := hrel
          have wc : wr.cell? ⟨W5.heap.size, 0, none⟩ = some (.slice aw nw cw) := (HY.out.2.1.later HR.out.2).box.cell
          by_cases hgo : b < nn ∧ a < nw
          · obtain ⟨hb1, ha1⟩ := hgo
            have g1 : (b : Int) < (nn : Int) := by omega
            have g2 : (a : Int) < (nw : Int) := by omega
            have g3 : (0 : Int) ≤ (b : Int) := by omega
            have g4 : (0 : Int) ≤ (a : Int) := by omega
            have hax : a < xs.length := by rw [← HLX.out.2.1]; exact ha1
            have hbx : b < zs.length := by rw [← HY.out.2.2.2.2.2.1]; exact hb1
            obtain ⟨x, hx⟩ : ∃ x, xs[a]? = some x := ⟨_, List.getElem?_eq_getElem hax⟩
            obtain ⟨z, hz⟩ : ∃ z, zs[b]? = some z := ⟨_, List.getElem?_eq_getElem hbx⟩
            have W9 := HY.out.2.1.later HR.out.2
            obtain ⟨gw, cw0, ew, hgw, csw⟩ := row_cells W9.row hx
            obtain ⟨gz, cz0, ez, hgz, csz⟩ := row_cells (ownsRow_below HY.out.2.2.1 HR.out.2) hz
            obtain ⟨rfl, -, rfl⟩ : aw = some ⟨gw, 0, none⟩ ∧ nw = xs.length ∧ cw = cw0 := by cases ew; exact ⟨rfl, rfl, rfl⟩
            obtain ⟨rfl, -, rfl⟩ : an = some ⟨gz, 0, none⟩ ∧ nn = zs.length ∧ cn = cz0 := by cases ez; exact ⟨rfl, rfl, rfl⟩
            have HSe : Hid (∀ Z, Below wr.heap.size wr Z → Calls Try.prog 12 #[.agg #[z.vr, .int .i64 z.fam, z.vq, .int .i64 z.ts, .int .i64 z.seq, .int .i64 z.kind, z.vv], .agg #[x.vr, .int .i64 x.fam, x.vq, .int .i64 x.ts, .int .i64 x.seq, .int .i64 x.kind, x.vv]] Z fun r w' => r = .returned (.bool (decide (EntD.Same z x))) ∧ Below Z.heap.size Z w') := fun Z q => se_any (((HY.out.2.2.2.1 z (List.mem_of_getElem? hz)).ok.later HR.out.2).later q) ((W9.ents x (List.mem_of_getElem? hx)).ok.later q)
            have KS : Hid (∀ wx, Below wr.heap.size wr wx → wx.cell? ⟨W5.heap.size, 0, none⟩ = some (.slice (some ⟨gw, 0, none⟩) nw cw) ∧ (wx.cell? ⟨gw, a * 7, none⟩ = some x.vr ∧ wx.cell? ⟨gw, a * 7 + 1, none⟩ = some (.int .i64 x.fam) ∧ wx.cell? ⟨gw, a * 7 + 2, none⟩ = some x.vq ∧ wx.cell? ⟨gw, a * 7 + 3, none⟩ = some (.int .i64 x.ts) ∧ wx.cell? ⟨gw, a * 7 + 4, none⟩ = some (.int .i64 x.seq) ∧ wx.cell? ⟨gw, a * 7 + 5, none⟩ = some (.int .i64 x.kind) ∧ wx.cell? ⟨gw, a * 7 + 6, none⟩ = some x.vv) ∧ (wx.cell? ⟨gz, b * 7, none⟩ = some z.vr ∧ wx.cell? ⟨gz, b * 7 + 1, none⟩ = some (.int .i64 z.fam) ∧ wx.cell? ⟨gz, b * 7 + 2, none⟩ = some z.vq ∧ wx.cell? ⟨gz, b * 7 + 3, none⟩ = some (.int .i64 z.ts) ∧ wx.cell? ⟨gz, b * 7 + 4, none⟩ = some (.int .i64 z.seq) ∧ wx.cell? ⟨gz, b * 7 + 5, none⟩ = some (.int .i64 z.kind) ∧ wx.cell? ⟨gz, b * 7 + 6, none⟩ = some z.vv)) := fun wx q => ⟨(W9.later q).box.cell, csw.later q, csz.later q⟩
            have HE : Hid ((EntD.Same z x → Emb (xs.drop (a + 1)) (zs.drop (b + 1))) ∧ (¬ EntD.Same z x → Emb (xs.drop a) (zs.drop (b + 1)))) := by
              have e := HR.out.1
              rw [drop_get hax, drop_get hbx] at e
              have e1 : xs[a] = x := by rw [List.getElem?_eq_getElem hax] at hx; exact Option.some.inj hx
              have e2 : zs[b] = z := by rw [List.getElem?_eq_getElem hbx] at hz; exact Option.some.inj hz
              rw [e1, e2] at e
              refine ⟨fun _ => e.hit, fun hn => ?_⟩
              rw [drop_get hax, e1]
              exact e.miss hn
            have D0 : Below wr.heap.size wr wr.drew := (Below.refl _ _).drew
            clear W9 csw csz hx hz ew ez
            by_cases hsame : EntD.Same z x
            · have HE1 : Hid (Emb (xs.drop (a + 1)) (zs.drop (b + 1))) := HE.out.1 hsame
              rw [decide_eq_true hsame] at HSe
              clear HE hsame
              gi_wp2_with fail
              refine wpIn_noPanic ?_
              refine wpIn_wide.2 ?_
              go_region_held3 (fun wx => wx.cell? ⟨W5.heap.size, 0, none⟩ = some (.slice (some ⟨gw, 0, none⟩) nw cw) ∧ (wx.cell? ⟨gw, a * 7, none⟩ = some x.vr ∧ wx.cell? ⟨gw, a * 7 + 1, none⟩ = some (.int .i64 x.fam) ∧ wx.cell? ⟨gw, a * 7 + 2, none⟩ = some x.vq ∧ wx.cell? ⟨gw, a * 7 + 3, none⟩ = some (.int .i64 x.ts) ∧ wx.cell? ⟨gw, a * 7 + 4, none⟩ = some (.int .i64 x.seq) ∧ wx.cell? ⟨gw, a * 7 + 5, none⟩ = some (.int .i64 x.kind) ∧ wx.cell? ⟨gw, a * 7 + 6, none⟩ = some x.vv) ∧ (wx.cell? ⟨gz, b * 7, none⟩ = some z.vr ∧ wx.cell? ⟨gz, b * 7 + 1, none⟩ = some (.int .i64 z.fam) ∧ wx.cell? ⟨gz, b * 7 + 2, none⟩ = some z.vq ∧ wx.cell? ⟨gz, b * 7 + 3, none⟩ = some (.int .i64 z.ts) ∧ wx.cell? ⟨gz, b * 7 + 4, none⟩ = some (.int .i64 z.seq) ∧ wx.cell? ⟨gz, b * 7 + 5, none⟩ = some (.int .i64 z.kind) ∧ wx.cell? ⟨gz, b * 7 + 6, none⟩ = some z.vv)) (first | exact KS.out _ D0 | exact KS.out _ D1) (first | (go_at_call 12; refine Calls.mono (HSe.out _ D0) ?_; rintro e1 wk ⟨rfl, hbk⟩; have D1 := D0.trans (hbk.mono D0.size)))
              refine NoPanic.normal ?_
              gi_wp2
              go_roundw
              case rel => exact ⟨a + 1, b + 1, by go_num, by go_num, by omega, by omega, HE1.out, HR.out.2.trans (D1.mono HR.out.2.size)⟩
              case measure => simp [intOf]; omega
            · have HE1 : Hid (Emb (xs.drop a) (zs.drop (b + 1))) := HE.out.2 hsame
              rw [decide_eq_false hsame] at HSe
              clear HE hsame
              gi_wp2_with fail
              refine wpIn_noPanic ?_
              refine wpIn_wide.2 ?_
              go_region_held3 (fun wx => wx.cell? ⟨W5.heap.size, 0, none⟩ = some (.slice (some ⟨gw, 0, none⟩) nw cw) ∧ (wx.cell? ⟨gw, a * 7, none⟩ = some x.vr ∧ wx.cell? ⟨gw, a * 7 + 1, none⟩ = some (.int .i64 x.fam) ∧ wx.cell? ⟨gw, a * 7 + 2, none⟩ = some x.vq ∧ wx.cell? ⟨gw, a * 7 + 3, none⟩ = some (.int .i64 x.ts) ∧ wx.cell? ⟨gw, a * 7 + 4, none⟩ = some (.int .i64 x.seq) ∧ wx.cell? ⟨gw, a * 7 + 5, none⟩ = some (.int .i64 x.kind) ∧ wx.cell? ⟨gw, a * 7 + 6, none⟩ = some x.vv) ∧ (wx.cell? ⟨gz, b * 7, none⟩ = some z.vr ∧ wx.cell? ⟨gz, b * 7 + 1, none⟩ = some (.int .i64 z.fam) ∧ wx.cell? ⟨gz, b * 7 + 2, none⟩ = some z.vq ∧ wx.cell? ⟨gz, b * 7 + 3, none⟩ = some (.int .i64 z.ts) ∧ wx.cell? ⟨gz, b * 7 + 4, none⟩ = some (.int .i64 z.seq) ∧ wx.cell? ⟨gz, b * 7 + 5, none⟩ = some (.int .i64 z.kind) ∧ wx.cell? ⟨gz, b * 7 + 6, none⟩ = some z.vv)) (first | exact KS.out _ D0 | exact KS.out _ D1) (first | (go_at_call 12; refine Calls.mono (HSe.out _ D0) ?_; rintro e1 wk ⟨rfl, hbk⟩; have D1 := D0.trans (hbk.mono D0.size)))
              refine NoPanic.normal ?_
              gi_wp2
              go_roundw
              case rel => exact ⟨a, b + 1, rfl, by go_num, by omega, by omega, HE1.out, HR.out.2.trans (D1.mono HR.out.2.size)⟩
              case measure => simp [intOf]; omega
          · have hanw : a = nw := by
              by_cases ha2 : a < nw
              · have hb2 : b = nn := by omega
                have e := HR.out.1
                rw [List.drop_of_length_le (show zs.length ≤ b by rw [hb2, HY.out.2.2.2.2.2.1]; exact Nat.le_refl _), drop_get (show a < xs.length by rw [← HLX.out.2.1]; exact ha2)] at e
                exact e.elim
              · omega
            have F9 := HY.out.1.later HR.out.2
            obtain ⟨kz, hkz⟩ := F9.tab
            obtain ⟨pz, Tz, tbz, -, -⟩ := hkz.tree
            rw [show ((L1.length : Nat) : Int) = (nn : Int) by rw [HY.out.2.2.2.2.2.1, HY.out.2.2.2.2.2.2.1]] at tbz
            have HLn : Hid (Calls _ _ _ _ _) := len_any tbz
            have pc := F9.ptr.cell
            have rc := F9.res.cell
            have rf := F9.res.fz
            have HF : Hid (Below w.heap.size w wr ∧ Bxd wr (w.heap.size + 1) 4 (.bool false) ∧ wr.heap[D]? = some (.deferred (some [])) ∧ w.heap.size + 1 < D) := ⟨F9.below, F9.res, (HR.out.2.block _ (Array.getElem?_eq_some_iff.1 HY.out.2.2.2.2.1).1).trans HY.out.2.2.2.2.1, by have := HY.out.2.2.2.2.2.2.2.2; have := HSV.out; omega⟩
            clear F9 hkz tbz
            have ea : (a : Int) = (nw : Int) := by omega
            have ea2 : ¬ ((a : Int) < (nw : Int)) := by omega
            have ea3 : decide (a = nw) = true := by simpa using hanw
            clear hanw
            by_cases hb2 : b < nn
            · have g1 : (b : Int) < (nn : Int) := by omega
              gi_wp2_with fail
              refine ⟨trivial, ?_⟩
              refine (callsIn_wide.2 HLn.out).mono ?_
              rintro z Wk ⟨rfl, rfl⟩
              gi_wp2
              have hdf' : (Wk.setCell ⟨w.heap.size + 1, 0, none⟩ (.bool true)).heap[D]? = some (.deferred (some [])) := (Below.heap_setCell _ _ _ _ (by show _ ≠ w.heap.size + 1; have := HF.out.2.2.2; omega)).trans HF.out.2.2.1
              refine ⟨by simp, .inl ⟨_, _, rfl, run_takeDeferred hdf', ?_⟩⟩
              have hR : ((Wk.setCell ⟨w.heap.size + 1, 0, none⟩ (.bool true)).putObj D (.deferred none)).cell? ⟨w.heap.size + 1, 0, none⟩ = some (.bool true) := ((HF.out.2.1.set (.bool true)).keep (World.putObj_heap_other (by have := HF.out.2.2.2; omega))).cell
              have hBl : Below w.heap.size w ((Wk.setCell ⟨w.heap.size + 1, 0, none⟩ (.bool true)).putObj D (.deferred none)) := by
                have b5 := HF.out.1.setCell (p := ⟨w.heap.size + 1, 0, none⟩) (Nat.le_succ _) (.bool true)
                exact b5.trans ((Turn.put (B := w.heap.size) (.deferred none) b5.size (by have := HF.out.2.2.2; omega) hdf' rfl).below)
              exact ⟨.bool true, by simp [results, Try.results3, go_sem, hR], rfl, hBl⟩
            · have g1 : ¬ ((b : Int) < (nn : Int)) := by omega
              gi_wp2_with fail
              refine ⟨trivial, ?_⟩
              refine (callsIn_wide.2 HLn.out).mono ?_
              rintro z Wk ⟨rfl, rfl⟩
              gi_wp2
              have hdf' : (Wk.setCell ⟨w.heap.size + 1, 0, none⟩ (.bool true)).heap[D]? = some (.deferred (some [])) := (Below.heap_setCell _ _ _ _ (by show _ ≠ w.heap.size + 1; have := HF.out.2.2.2; omega)).trans HF.out.2.2.1
              refine ⟨by simp, .inl ⟨_, _, rfl, run_takeDeferred hdf', ?_⟩⟩
              have hR : ((Wk.setCell ⟨w.heap.size + 1, 0, none⟩ (.bool true)).putObj D (.deferred none)).cell? ⟨w.heap.size + 1, 0, none⟩ = some (.bool true) := ((HF.out.2.1.set (.bool true)).keep (World.putObj_heap_other (by have := HF.out.2.2.2; omega))).cell
              have hBl : Below w.heap.size w ((Wk.setCell ⟨w.heap.size + 1, 0, none⟩ (.bool true)).putObj D (.deferred none)) := by
                have b5 := HF.out.1.setCell (p := ⟨w.heap.size + 1, 0, none⟩) (Nat.le_succ _) (.bool true)
                exact b5.trans ((Turn.put (B := w.heap.size) (.deferred none) b5.size (by have := HF.out.2.2.2; omega) hdf' rfl).below)
              exact ⟨.bool true, by simp [results, Try.results3, go_sem, hR], rfl, hBl⟩
      case stop =>
        rintro D c pre X hD hsp h hdf
        exact h.elim
end Go.Proofs.Ytnjopfdeapclhaa
