import Derived.Test.YtpabbnddeklpdaaGreatK10
namespace Go.Proofs.YtpabbnddeklpdaaGreat
open Go.RowKit Go.Shelf
set_option linter.unusedVariables false
attribute [local go_sem] Oper.semAt_some

set_option maxRecDepth 100000 in
theorem seq_nil (f : Nat) (lb : Array Value) (w : World) : Sem.run Tryz.prog (binOp BinOp.eql 43 (.func (.func f) #[] lb) .nilFunc) w = .ok (.bool false) w := by rfl

set_option maxRecDepth 100000 in
set_option maxHeartbeats 4000000 in
theorem told8_any (w : World) : Calls Tryz.prog 4 #[] w fun e w' => e = .returned (.bool true) ∧ Below w.heap.size w w' := by
 have hb0 := Bxd.new w 4 (.bool false)
 have b0 := (Below.refl w.heap.size w).alloc (Nat.le_refl _) (.cells #[.bool false] 4)
 have hN := td_new w (w.alloc (.cells #[.bool false] 4)) hb0 (by simp) b0
 have HN : Hid (Calls _ _ _ _ _) := hN
 have hsq := seq_nil
 clear hN hb0 b0
 refine (callsIn_wide (n := 9)).1 ?_
 refine callsIn_of_wp_marks Tryz.func4 rfl trivial ?_ rfl
 simp only [Tryz.ntmps4, List.size_toArray, List.length_nil, Nat.reduceSub, Array.replicate_succ, Array.replicate_zero, List.push_toArray, List.append_toArray, List.nil_append, List.cons_append]
 gi_wp2_with fail
 refine ⟨trivial, ?_⟩
 refine (callsIn_wide.2 HN.out).mono ?_
 rintro z W0 ⟨rfl, h0⟩
 have H0 : Hid (Td w [] 0 W0) := h0
 clear h0 HN
 gi_wp2_with fail
 refine ⟨trivial, ?_⟩
 refine (callsIn_wide.2 (at_any 4 _)).mono ?_
 rintro z W1 ⟨r1, q1, v1, rfl, o1, b1⟩
 have H1 : Hid (Td w [] 0 W1) := H0.out.later b1
 have A1 : Hid (Calls _ _ _ _ _) := td_first H1.out o1
 clear o1 b1 H0 H1
 unfold atD EntD.cells at A1
 unfold atD EntD.cells
 gi_wp2_with fail
 refine ⟨trivial, ?_⟩
 refine (callsIn_wide.2 A1.out).mono ?_
 rintro z W2 ⟨rfl, x, k2, sx, h2⟩
 have H2 : Hid (Td w [x] k2 W2 ∧ EntD.Same x (atD r1 q1 v1 4)) := ⟨h2, sx⟩
 clear h2 sx A1
 gi_wp2_with fail
 refine ⟨trivial, ?_⟩
 refine (callsIn_wide.2 (at_any 5 _)).mono ?_
 rintro z W3 ⟨r3, q3, v3, rfl, o3, b3⟩
 have H3 : Hid (Td w [x] k2 W3) := H2.out.1.later b3
 have A3 : Hid (Calls _ _ _ _ _) := td_second H3.out H2.out.2 o3
 clear o3 b3 H3
 unfold atD EntD.cells at A3
 unfold atD EntD.cells
 gi_wp2_with fail
 refine ⟨trivial, ?_⟩
 refine (callsIn_wide.2 A3.out).mono ?_
 rintro z W4 ⟨rfl, y, k4, sy, h4⟩
 have H4 : Hid (Td w [y, x] k4 W4 ∧ EntD.Same y (atD r3 q3 v3 5) ∧ EntD.Same x (atD r1 q1 v1 4)) := ⟨h4, sy, H2.out.2⟩
 clear h4 sy A3 H2
 obtain ⟨p4, T4, tb4, -, -⟩ := H4.out.1.tab.tree
 have HL : Hid (Calls _ _ _ _ _) := len_any tb4
 clear tb4
 gi_wp2_with fail
 refine ⟨trivial, ?_⟩
 refine (callsIn_wide.2 HL.out).mono ?_
 rintro z W5 ⟨rfl, rfl⟩
 clear HL
 gi_wp2_with fail
 refine ⟨trivial, ?_⟩
 refine (callsIn_wide.2 (at_any 5 _)).mono ?_
 rintro z W6 ⟨r6, q6, v6, rfl, o6, b6⟩
 have H6 : Hid (Td w [y, x] k4 W6) := H4.out.1.later b6
 have A6 : Hid (Calls _ _ _ _ _) := td_third H6.out H4.out.2.1 o6
 have HS : Hid (EntD.Same y (atD r3 q3 v3 5) ∧ EntD.Same x (atD r1 q1 v1 4)) := H4.out.2
 clear o6 b6 H6 H4
 unfold atD EntD.cells at A6
 unfold atD EntD.cells
 gi_wp2_with fail
 refine ⟨trivial, ?_⟩
 refine (callsIn_wide.2 A6.out).mono ?_
 rintro z W7 ⟨rfl, h7⟩
 have H7 : Hid (Td w [y, x] k4 W7) := h7
 clear h7 A6
 gi_wp2_with fail
 refine ⟨trivial, ?_⟩
 refine (callsIn_wide.2 (all_any _ _)).mono ?_
 rintro z W8 ⟨rfl, rfl⟩
 have H8 : Hid (Td w [y, x] k4 _) := H7.out.later ((Below.refl _ W7).alloc (Nat.le_refl _) (.cells #[.pointer (some ⟨w.heap.size + 1, 0, none⟩)] 25))
 clear H7
 gi_wp2_with fail
 refine ⟨trivial, ?_⟩
 refine (callsIn_wide.2 (at_any 9 _)).mono ?_
 rintro z W9 ⟨r9, q9, v9, rfl, o9, b9⟩
 have H9 : Hid (Td w [y, x] k4 W9) := H8.out.later b9
 have A9 : Hid (Calls _ _ _ _ _) := from_any (v := some ⟨w.heap.size + 1, 0, none⟩) o9 (by simp [atD])
 clear o9 b9 H8
 unfold atD EntD.cells at A9
 unfold atD EntD.cells
 gi_wp2_with fail
 refine ⟨trivial, ?_⟩
 refine (callsIn_wide.2 A9.out).mono ?_
 rintro z W10 ⟨⟨lb, rfl⟩, b10⟩
 have H10 : Hid (Td w [y, x] k4 W10) := H9.out.later b10
 clear b10 A9 H9
 gi_wp2_with fail
 refine ⟨trivial, ?_⟩
 refine (callsIn_wide.2 (all_any _ _)).mono ?_
 rintro z W11 ⟨rfl, rfl⟩
 gi_wp2_with fail
 have b1 := (Below.refl W10.heap.size W10).alloc (Nat.le_refl _) (.cells #[.int .i64 0] 3)
 have b2 := b1.alloc b1.size (.cells #[.pointer (some ⟨w.heap.size + 1, 0, none⟩)] 25)
 have x1 : Bxd ((W10.alloc (.cells #[.int .i64 0] 3)).alloc (.cells #[.pointer (some ⟨w.heap.size + 1, 0, none⟩)] 25)) W10.heap.size 3 (.int .i64 0) := (Bxd.new W10 _ _).keep (Below.heap_alloc _ _ _ (by simp))
 have x2 : Bxd ((W10.alloc (.cells #[.int .i64 0] 3)).alloc (.cells #[.pointer (some ⟨w.heap.size + 1, 0, none⟩)] 25)) (W10.heap.size + 1) 25 (.pointer (some ⟨w.heap.size + 1, 0, none⟩)) := by
  have := Bxd.new (W10.alloc (.cells #[.int .i64 0] 3)) 25 (.pointer (some ⟨w.heap.size + 1, 0, none⟩))
  rwa [World.size_alloc] at this
 have s2 : ((W10.alloc (.cells #[.int .i64 0] 3)).alloc (.cells #[.pointer (some ⟨w.heap.size + 1, 0, none⟩)] 25)).heap.size = W10.heap.size + 2 := by simp
 have H11 := H10.out.later b2
 obtain ⟨p, T, t1, t2, t3⟩ := H10.out.tab.tree
 have hT2 : IsT (fun i => w.heap.size + 1 < i ∧ i < W10.heap.size) _ p T := t2.lt.kept (KpG.of b2)
 have hb2 := t1.later b2
 have hlens := H10.out.tab.lens
 have hw10 := H10.out.size
 generalize ((W10.alloc (.cells #[.int .i64 0] 3)).alloc (.cells #[.pointer (some ⟨w.heap.size + 1, 0, none⟩)] 25)) = V at *
 refine range_wide (w := V) rfl (enters_of Tryz.func40 (by kernel_rfl) rfl) (encs := fun x : EntD => #[.agg x.cells]) (all_seq x2 hb2 hT2 (by rw [t3]; exact hlens)) (fun h k => h.trans k) (fun X o o' ho hc => KpO.put o o' (by omega) ho hc) (fun _ => rfl)
  (fun pre X => Bxd X w.heap.size 4 (.bool false) ∧ Bxd X W10.heap.size 3 (.int .i64 (pre.length : Int)) ∧ Below w.heap.size w X ∧ V.heap.size ≤ X.heap.size)
  (fun c pre X => False)
  (fun s X h => h.2.2.2)
  (fun s X Z hX ⟨h1, h2, h3, h4⟩ tu => ⟨h1.turn tu, h2.turn tu, h3.trans (tu.below.mono (by omega)), Nat.le_trans h4 tu.below.size⟩)
  (fun c s X Z hX h tu => h)
  ⟨H11.box, x1, H11.below, Nat.le_refl _⟩
  (fun pre x a' X => ∃ Bx, V.heap.size + 6 ≤ Bx ∧ EBox X Bx x ∧ NxC T.ord (V.heap.size + 2) pre x X ∧ a' = { tmps := #[.pointer (some ⟨w.heap.size, 0, none⟩), .pointer (some ⟨w.heap.size + 1, 0, none⟩), .pointer (some ⟨W10.heap.size, 0, none⟩), .pointer (some ⟨Bx, 0, none⟩), .pointer (some ⟨w.heap.size + 1, 0, none⟩), .pointer (some ⟨w.heap.size + 1, 0, none⟩), .bool false, .bool false, .pointer (some ⟨w.heap.size + 1, 0, none⟩), .agg #[r1, .int .i64 0, q1, .int .i64 4, .int .i64 32, .int .i64 1, v1], .int .i64 0, .bool false, .bool false, .bool false, .pointer (some ⟨w.heap.size + 1, 0, none⟩), .agg #[r3, .int .i64 0, q3, .int .i64 5, .int .i64 32, .int .i64 1, v3], .int .i64 0, .bool false, .bool false, .bool false, .pointer (some ⟨w.heap.size + 1, 0, none⟩), .int .i64 2, .bool false, .bool false, .bool false, .pointer (some ⟨w.heap.size + 1, 0, none⟩), .agg #[r6, .int .i64 0, q6, .int .i64 5, .int .i64 32, .int .i64 1, v6], .int .i64 80, .bool false, .bool false, .pointer (some ⟨w.heap.size + 1, 0, none⟩), .func (.func 40) #[] #[.pointer (some ⟨W7.heap.size, 0, none⟩)], .bool false, .bool false, .pointer (some ⟨w.heap.size + 1, 0, none⟩), .agg #[r9, .int .i64 0, q9, .int .i64 9, .int .i64 32, .int .i64 1, v9], .func (.func 25) #[] lb, .bool false, .bool false, .pointer (some ⟨w.heap.size + 1, 0, none⟩), .func (.func 40) #[] #[.pointer (some ⟨W10.heap.size + 1, 0, none⟩)], .agg x.cells, undef, undef, undef, undef, undef, undef, undef, undef, undef, undef], defers := [] })
  (fun pre x a' _ X Z hX ⟨Bx, k0, k1, k2, k3⟩ tu => ⟨Bx, k0, tu.cells _ _ k1 rfl, ⟨Nat.le_trans k2.1 tu.below.size, k2.2.1, k2.2.2.keptC tu.toC⟩, k3⟩)
  ?assign ?body ?done ?stop (fun c s X h => h.elim)
 case assign =>
  intro l' pre x X K hi hsX hgd hK
  have hsX' : V.heap.size + 6 ≤ X.heap.size := hgd.1
  obtain ⟨vr, fam, vq, ts, seq, kind, vv, row, qual, val⟩ := x
  have r1' : Rd X vr row := hgd.2.2.1.1
  have r2' : Rd X vq qual := hgd.2.2.2.1.1
  have r3' : Rd X vv val := hgd.2.2.2.2.1
  obtain ⟨ar, nr, cr, rfl⟩ := rd_slice r1'
  obtain ⟨aq, nq, cq, rfl⟩ := rd_slice r2'
  obtain ⟨av, nv, cv, rfl⟩ := rd_slice r3'
  have hbb := (Below.refl X.heap.size X).alloc (Nat.le_refl _) (.cells (EntD.mk (.slice ar nr cr) fam (.slice aq nq cq) ts seq kind (.slice av nv cv) row qual val).cells 38)
  have tu := Turn.of (B := V.heap.size) hbb (by omega)
  have HI : Hid (Bxd _ w.heap.size 4 (.bool false) ∧ Bxd _ W10.heap.size 3 (.int .i64 (pre.length : Int)) ∧ Below w.heap.size w _ ∧ V.heap.size ≤ _) := (fun ⟨h1, h2, h3, h4⟩ => ⟨h1.turn tu, h2.turn tu, h3.trans (tu.below.mono (by omega)), Nat.le_trans h4 tu.below.size⟩) hi
  have HNx : Hid (NxC T.ord (V.heap.size + 2) pre _ _) := ⟨Nat.le_trans hgd.1 tu.below.size, hgd.2.1, hgd.2.2.keptC tu.toC⟩
  have HT : Hid (KpO (fun i => w.heap.size + 1 < i ∧ i < W10.heap.size) (V.heap.size + 2) X _) := ⟨tu.toC, Oth.of hbb⟩
  have HX : Hid (EBox (X.alloc (.cells (EntD.mk (.slice ar nr cr) fam (.slice aq nq cq) ts seq kind (.slice av nv cv) row qual val).cells 38)) X.heap.size _) := EBox.new X _
  clear hbb tu hi hgd r1' r2' r3'
  simp only [EntD.cells] at *
  gi_wp2
  exact hK _ _ ((KeepsOthers.alloc _ _).from _) HT.out HI.out ⟨X.heap.size, hsX', HX.out, HNx.out, rfl⟩
 case body =>
  rintro l' pre x1' a' X ⟨h1, h2, h3, h4⟩ ⟨Bx, hBx, bx, hnx, rfl⟩
  have hmx : Tryz.prog.follows .mixedOrders = true := by kernel_rfl
  rw [t3] at hnx
  obtain ⟨sy, sx⟩ := HS.out
  have hz : ∃ n : Nat, pre.length = n ∧ n ≤ 1 ∧ ∀ a b c, EntD.Same x1' (atD a b c (5 - (n : Int))) := by
   rcases nx2 hnx with ⟨e, hs⟩ | ⟨e, hs⟩
   ·exact ⟨0, e, by omega, fun a b c => ⟨hs.1.trans sy.1, hs.2.1.trans sy.2.1, hs.2.2.1.trans sy.2.2.1, hs.2.2.2.1.trans sy.2.2.2.1, hs.2.2.2.2.1.trans sy.2.2.2.2.1, hs.2.2.2.2.2.1.trans sy.2.2.2.2.2.1, hs.2.2.2.2.2.2.trans sy.2.2.2.2.2.2⟩⟩
   ·exact ⟨1, e, by omega, fun a b c => ⟨hs.1.trans sx.1, hs.2.1.trans sx.2.1, hs.2.2.1.trans sx.2.2.1, hs.2.2.2.1.trans sx.2.2.2.1, hs.2.2.2.2.1.trans sx.2.2.2.2.1, hs.2.2.2.2.2.1.trans sx.2.2.2.2.2.1, hs.2.2.2.2.2.2.trans sx.2.2.2.2.2.2⟩⟩
  obtain ⟨n, hn, hn1, hsm⟩ := hz
  have n0 := h2.cell
  have f0 := h2.fz
  rw [hn] at n0
  have D0 : Below X.heap.size X X.drew := (Below.refl _ _).drew
  have HAt : Hid (∀ Z, Calls Tryz.prog 20 #[.int .i64 (5 - (n : Int))] Z fun e w' => ∃ t3 : Value × Value × Value, e = .returned (.agg #[t3.1, .int .i64 0, t3.2.1, .int .i64 (5 - (n : Int)), .int .i64 32, .int .i64 1, t3.2.2]) ∧ EntD.Ok w' (atD t3.1 t3.2.1 t3.2.2 (5 - (n : Int))) ∧ Below Z.heap.size Z w') := fun Z => (at_any _ Z).mono (fun e w' ⟨a, b, c, h1, h2, h3⟩ => ⟨(a, b, c), h1, h2, h3⟩)
  have HSe : Hid (∀ Z, Below X.heap.size X Z → ∀ t3 : Value × Value × Value, EntD.Ok Z (atD t3.1 t3.2.1 t3.2.2 (5 - (n : Int))) → Calls Tryz.prog 11 #[.agg #[x1'.vr, .int .i64 x1'.fam, x1'.vq, .int .i64 x1'.ts, .int .i64 x1'.seq, .int .i64 x1'.kind, x1'.vv], .agg #[t3.1, .int .i64 0, t3.2.1, .int .i64 (5 - (n : Int)), .int .i64 32, .int .i64 1, t3.2.2]] Z fun r w' => r = .returned (.bool true) ∧ Below Z.heap.size Z w') := fun Z b t3 ho => by
   refine (se_any (hnx.2.2.ok.later b) ho).mono ?_
   rintro r w' ⟨rfl, hb⟩
   rw [decide_eq_true (hsm _ _ _)]
   exact ⟨rfl, hb⟩
  obtain ⟨c0, c1, c2, c3, c4, c5, c6⟩ := (⟨bx.vr, bx.fam, bx.vq, bx.ts, bx.seq, bx.kind, bx.vv⟩ : _ ∧ _ ∧ _ ∧ _ ∧ _ ∧ _ ∧ _)
  have HB : Hid (∀ Z, Below X.heap.size X Z → EBox Z Bx x1' ∧ Bxd Z w.heap.size 4 (.bool false) ∧ Bxd Z W10.heap.size 3 (.int .i64 (n : Int)) ∧ Below w.heap.size w Z) := fun Z b => ⟨bx.later b, h1.keep (b.block _ h1.lt), (by rw [← hn]; exact h2.keep (b.block _ h2.lt)), h3.trans (b.mono h3.size)⟩
  unfold EntD.cells
  clear h1 h2 h3 bx hnx hsm sy sx
  have hwr : IntKind.i64.wrap (5 - (n : Int)) = 5 - (n : Int) := wrap_ok _ (by omega) (by omega)
  have hwn : IntKind.i64.wrap ((n : Int) + 1) = (n : Int) + 1 := wrap_ok _ (by omega) (by omega)
  gi_wp2_with fail
  gi_region_with_o (first | (refine ⟨trivial, ?_⟩; gi_at_call 20; refine (CallsIn.inRound l' (callsIn_wide.2 (HAt.out _))).mono ?_; rintro z w1 ⟨t9, rfl, ho, hb1⟩; have D1 := D0.trans (hb1.mono D0.size); obtain ⟨d0, d1, d2, d3, d4, d5, d6⟩ := (⟨(HB.out _ D1).1.vr, (HB.out _ D1).1.fam, (HB.out _ D1).1.vq, (HB.out _ D1).1.ts, (HB.out _ D1).1.seq, (HB.out _ D1).1.kind, (HB.out _ D1).1.vv⟩ : _ ∧ _ ∧ _ ∧ _ ∧ _ ∧ _ ∧ _)) | (refine ⟨trivial, ?_⟩; gi_at_call 11; refine (CallsIn.inRound l' (callsIn_wide.2 (HSe.out _ D1 t9 ho))).mono ?_; rintro z w2 ⟨rfl, hb2⟩; have D2 := D1.trans (hb2.mono D1.size); have m0 := (HB.out _ D2).2.2.1.cell; have m1 := (HB.out _ D2).2.2.1.fz))
  all_goals
   gi_wp2
   obtain ⟨-, g1, g2, g3⟩ := HB.out _ D2
   have hsz2 : X.heap.size ≤ w2.heap.size := D2.size
   have hKO : KeepsOthers X (w2.setCell ⟨W10.heap.size, 0, none⟩ (.int .i64 ((n : Int) + 1))) := ⟨by rw [World.size_setCell]; exact D2.size, fun i o hi ho => (KeepsOthers.setCell w2 ⟨W10.heap.size, 0, none⟩ (.int .i64 ((n : Int) + 1))).same i o ((D2.block i (Array.getElem?_eq_some_iff.1 hi).1).trans hi) ho⟩
   refine ⟨hKO.from _, ⟨⟨hKO.size, fun i o hi ho hg => ?_⟩, hKO.size, fun i o _ hi ho => hKO.same i o hi ho⟩, g1.keep (Below.heap_setCell _ _ _ _ (by show _ ≠ W10.heap.size; omega)), ?_, g3.setCell (p := ⟨W10.heap.size, 0, none⟩) (by show _ ≤ W10.heap.size; omega) _, Nat.le_trans h4 hKO.size⟩
   ·rw [Below.heap_setCell _ _ _ _ (show i ≠ W10.heap.size by omega), D2.block i (Array.getElem?_eq_some_iff.1 hi).1]; exact hi
   ·rw [List.length_append, hn]; exact g2.set _
 case done =>
  rintro D xs X hD hsm ⟨h1, h2, h3, h4⟩ hdf
  have hl := hsm.len
  rw [t3] at hl
  rw [hl] at h2
  have n0 := h2.cell
  have e0 := h1.cell
  have e1 := h1.fz
  gi_wp2
  have hdf' : (X.setCell ⟨w.heap.size, 0, none⟩ (.bool true)).heap[D]? = some (.deferred (some [])) := (Below.heap_setCell _ _ _ _ (by show _ ≠ w.heap.size; omega)).trans hdf
  refine ⟨by simp, .inl ⟨_, _, rfl, run_takeDeferred hdf', ?_⟩⟩
  have hR : ((X.setCell ⟨w.heap.size, 0, none⟩ (.bool true)).putObj D (.deferred none)).cell? ⟨w.heap.size, 0, none⟩ = some (.bool true) := ((h1.set (.bool true)).keep (World.putObj_heap_other (by omega))).cell
  have hBl : Below w.heap.size w ((X.setCell ⟨w.heap.size, 0, none⟩ (.bool true)).putObj D (.deferred none)) := by
   have b5 := h3.setCell (p := ⟨w.heap.size, 0, none⟩) (Nat.le_refl _) (.bool true)
   exact b5.trans ((Turn.put (B := w.heap.size) (.deferred none) b5.size (by omega) hdf' rfl).below)
  refine ⟨.bool true, by simp [results, Tryz.results4, go_sem, hR], rfl, hBl⟩
 case stop =>
  rintro D c pre X hD hsp h hdf
  exact h.elim
end Go.Proofs.YtpabbnddeklpdaaGreat

namespace Go.Proofs.YtpabbnddeklpdaaGreat
open Go.RowKit
set_option linter.unusedVariables false

theorem EntD.Same.rfl' (a : EntD) : EntD.Same a a := ⟨rfl, rfl, rfl, rfl, rfl, rfl, rfl⟩
theorem EntD.Same.trans {a b c : EntD} (h : EntD.Same a b) (k : EntD.Same b c) : EntD.Same a c := ⟨h.1.trans k.1, h.2.1.trans k.2.1, h.2.2.1.trans k.2.2.1, h.2.2.2.1.trans k.2.2.2.1, h.2.2.2.2.1.trans k.2.2.2.2.1, h.2.2.2.2.2.1.trans k.2.2.2.2.2.1, h.2.2.2.2.2.2.trans k.2.2.2.2.2.2⟩
theorem Sm.get : ∀ {xs ys : List EntD}, Sm xs ys → ∀ (i : Nat) (x y : EntD), xs[i]? = some x → ys[i]? = some y → EntD.Same x y
 | [], [], _, i, x, y, h, _ => by simp at h
 | a :: xs, b :: ys, h, 0, x, y, hx, hy => by simp at hx hy; subst hx hy; exact h.1
 | a :: xs, b :: ys, h, i + 1, x, y, hx, hy => Sm.get h.2 i x y (by simpa using hx) (by simpa using hy)
 | [], _ :: _, h, _, _, _, _, _ => h.elim
 | _ :: _, [], h, _, _, _, _, _ => h.elim
def Emb : List EntD → List EntD → Prop
 | [], _ => True
 | _ :: _, [] => False
 | a :: us, b :: bs => (EntD.Same b a ∧ Emb us bs) ∨ Emb (a :: us) bs
theorem Emb.tail : ∀ {a : EntD} {us bs : List EntD}, Emb (a :: us) bs → Emb us bs
 | _, _, [], h => h.elim
 | a, [], b :: bs, _ => trivial
 | a, c :: us, b :: bs, h => by
  rcases h with ⟨_, h⟩ | h
  ·exact .inr h
  ·exact .inr (Emb.tail h)
theorem Emb.hit {a b : EntD} {us bs : List EntD} (h : Emb (a :: us) (b :: bs)) : Emb us bs := by
 rcases h with ⟨_, h⟩ | h
 ·exact h
 ·exact h.tail
theorem Emb.miss {a b : EntD} {us bs : List EntD} (h : Emb (a :: us) (b :: bs)) (hn : ¬ EntD.Same b a) : Emb (a :: us) bs := by
 rcases h with ⟨h, _⟩ | h
 ·exact absurd h hn
 ·exact h
theorem Emb.of : ∀ {L M : List EntD}, L.Sublist M → ∀ {xs ys : List EntD}, Sm xs L → Sm ys M → Emb xs ys := by
 intro L M h
 induction h with
 | slnil =>
  intro xs ys h1 h2
  cases xs with
  | nil => cases ys <;> trivial
  | cons a xs => exact h1.elim
 | cons b h ih =>
  intro xs ys h1 h2
  cases ys with
  | nil => exact h2.elim
  | cons y ys =>
   cases xs with
   | nil => trivial
   | cons x xs => exact .inr (ih h1 h2.2)
 | cons_cons b h ih =>
  intro xs ys h1 h2
  cases ys with
  | nil => exact h2.elim
  | cons y ys =>
   cases xs with
   | nil => trivial
   | cons x xs => exact .inl ⟨h2.1.trans h1.1.symm, ih h1.2 h2.2⟩
theorem drop_get {α : Type} {l : List α} {i : Nat} (h : i < l.length) : l.drop i = l[i] :: l.drop (i + 1) := List.drop_eq_getElem_cons h

/-! ### Entries of a row -/
theorem evals_length (xs : List EntD) : (evals xs).length = xs.length * 7 := by
 induction xs with
 | nil => rfl
 | cons x xs ih => simp [evals, EntD.cells] at *; omega
theorem evals_get : ∀ (xs : List EntD) (i j : Nat) (x : EntD), xs[i]? = some x → j < 7 → (evals xs)[i * 7 + j]? = x.cells.toList[j]?
 | [], i, j, x, h, _ => by simp at h
 | a :: xs, 0, j, x, h, hj => by
  simp at h; subst h
  have : evals (a :: xs) = a.cells.toList ++ evals xs := by simp [evals]
  rw [this, Nat.zero_mul, Nat.zero_add, List.getElem?_append_left (by simp [EntD.cells]; omega)]
 | a :: xs, i + 1, j, x, h, hj => by
  have : evals (a :: xs) = a.cells.toList ++ evals xs := by simp [evals]
  rw [this, List.getElem?_append_right (by simp [EntD.cells]; omega)]
  have e : (i + 1) * 7 + j - a.cells.toList.length = i * 7 + j := by simp [EntD.cells]; omega
  rw [e]
  exact evals_get xs i j x (by simpa using h) hj
def Cs (w : World) (b o : Nat) (x : EntD) : Prop := w.cell? ⟨b, o, none⟩ = some x.vr ∧ w.cell? ⟨b, o + 1, none⟩ = some (.int .i64 x.fam) ∧ w.cell? ⟨b, o + 2, none⟩ = some x.vq ∧ w.cell? ⟨b, o + 3, none⟩ = some (.int .i64 x.ts) ∧ w.cell? ⟨b, o + 4, none⟩ = some (.int .i64 x.seq) ∧ w.cell? ⟨b, o + 5, none⟩ = some (.int .i64 x.kind) ∧ w.cell? ⟨b, o + 6, none⟩ = some x.vv
theorem row_cells {w : World} {B n : Nat} {v : Value} {xs : List EntD} (h : w.ownsRow B 38 7 v n (evals xs)) {i : Nat} {x : EntD} (hx : xs[i]? = some x) : ∃ g cap, v = .slice (some ⟨g, 0, none⟩) xs.length cap ∧ B ≤ g ∧ Cs w g (i * 7) x := by
 have hn : n = xs.length := by have := h.1; rw [evals_length] at this; omega
 have hi : i < xs.length := (List.getElem?_eq_some_iff.1 hx).1
 rcases h.2 with ⟨rfl, h0⟩ | ⟨g, cap, cur, rfl, hB, hg, hle, _, hsz, htk⟩
 ·omega
 ·refine ⟨g, cap, by rw [hn], hB, ?_⟩
  have key : ∀ j, j < 7 → w.cell? ⟨g, i * 7 + j, none⟩ = x.cells.toList[j]? := fun j hj => by
   have e1 := evals_get xs i j x hx hj
   rw [← htk, List.getElem?_take_of_lt (by rw [hn]; omega)] at e1
   simp only [World.cell?, hg]
   rw [← Array.getElem?_toList]; exact e1
  refine ⟨?_, ?_, ?_, ?_, ?_, ?_, ?_⟩
  ·exact key 0 (by omega)
  ·exact key 1 (by omega)
  ·exact key 2 (by omega)
  ·exact key 3 (by omega)
  ·exact key 4 (by omega)
  ·exact key 5 (by omega)
  ·exact key 6 (by omega)
def RdE (w : World) (v : Value) (xs : List EntD) : Prop := ∃ a cap, v = .slice a xs.length cap ∧ xs.length ≤ cap ∧ cap ≤ maxLen ∧ xs.length ≤ 281474976710656 ∧ ∀ i x, xs[i]? = some x → EntD.Ok w x ∧ ∃ b off, a = some ⟨b, off, none⟩ ∧ Cs w b (off + i * 7) x
theorem Cs.later {w w' : World} {b o : Nat} {x : EntD} (h : Cs w b o x) (hb : Below w.heap.size w w') : Cs w' b o x := by
 have hl : b < w.heap.size := World.block_lt_of_cell? w _ h.1
 obtain ⟨h0, h1, h2, h3, h4, h5, h6⟩ := h
 exact ⟨(hb.cell (p := ⟨b, o, none⟩) hl).trans h0, (hb.cell (p := ⟨b, o + 1, none⟩) hl).trans h1, (hb.cell (p := ⟨b, o + 2, none⟩) hl).trans h2, (hb.cell (p := ⟨b, o + 3, none⟩) hl).trans h3, (hb.cell (p := ⟨b, o + 4, none⟩) hl).trans h4, (hb.cell (p := ⟨b, o + 5, none⟩) hl).trans h5, (hb.cell (p := ⟨b, o + 6, none⟩) hl).trans h6⟩
theorem KU.of_apart {t : Nat} {w w' : World} {cs : Array Value} {ty : TypeId} {fr : Nat × Nat} (h : Apart t w w') (ht : w.heap[t]? = some (.cells cs ty fr)) (hne : ty ≠ 5) : KU w w' := fun i cur fr' hi =>
 (h.block i (Array.getElem?_eq_some_iff.1 hi).1 (fun e => by subst e; rw [ht] at hi; cases hi; exact hne rfl)).trans hi
theorem ownsRow_apart {t B s n : Nat} {e : TypeId} {v : Value} {xs : List Value} {w w' : World} (h : w.ownsRow B e s v n xs) (ha : Apart t w w') (ht : t < B) : w'.ownsRow B e s v n xs := by
 refine ⟨h.1, ?_⟩
 rcases h.2 with h2 | ⟨g, cap, cur, h3, h4, h5, h6⟩
 ·exact .inl h2
 ·exact .inr ⟨g, cap, cur, h3, h4, (ha.block g (Array.getElem?_eq_some_iff.1 h5).1 (by omega)).trans h5, h6⟩
theorem ownsRow_below {B s n : Nat} {e : TypeId} {v : Value} {xs : List Value} {w w' : World} (h : w.ownsRow B e s v n xs) (hb : Below w.heap.size w w') : w'.ownsRow B e s v n xs := ownsRow_turn h (Turn.of hb (Nat.le_refl _))
end Go.Proofs.YtpabbnddeklpdaaGreat

namespace Go.Proofs.YtpabbnddeklpdaaGreat
open Go.RowKit Go.Shelf
set_option linter.unusedVariables false
attribute [local go_sem] Oper.semAt_some

theorem wpIn_noPanic {F : Fence} {n : Nat} {P : Program} {c : Code} {Q : Exit → Act → World → Prop} {a : Act} {w : World} (h : c.wpIn F n P (NoPanic Q) a w) : c.wpIn F n P Q a w := wpIn_mono h NoPanic.imp

theorem wrap64_ok (z : Int) (h0 : 0 ≤ z) (h1 : z < 9223372036854775808) : wrap64 z = z := by unfold wrap64; omega

structure Two (a b : Nat) (X Y : World) : Prop where
 size : X.heap.size ≤ Y.heap.size
 block : ∀ i, i < X.heap.size → i ≠ a → i ≠ b → Y.heap[i]? = X.heap[i]?
theorem Two.refl (a b : Nat) (X : World) : Two a b X X := ⟨Nat.le_refl _, fun _ _ _ _ => rfl⟩
theorem Two.trans {a b : Nat} {X Y Z : World} (h : Two a b X Y) (k : Two a b Y Z) : Two a b X Z := ⟨Nat.le_trans h.size k.size, fun i hi ha hb => (k.block i (Nat.lt_of_lt_of_le hi h.size) ha hb).trans (h.block i hi ha hb)⟩
theorem Two.of {a b : Nat} {X Y : World} (h : Below X.heap.size X Y) : Two a b X Y := ⟨h.size, fun i hi _ _ => h.block i hi⟩
theorem Two.apart {a b : Nat} {X Y : World} (h : Apart a X Y) : Two a b X Y := ⟨h.size, fun i hi ha _ => h.block i hi ha⟩
theorem Two.set {a b : Nat} {X : World} (i : Nat) (v : Value) : Two a b X (X.setCell ⟨b, i, none⟩ v) := ⟨by rw [World.size_setCell]; exact Nat.le_refl _, fun k _ _ hb => Below.heap_setCell X ⟨b, i, none⟩ v k hb⟩
theorem Two.others {a b : Nat} {X Y : World} (h : Two a b X Y) {oa ob : Obj} (ha : X.heap[a]? = some oa) (hb : X.heap[b]? = some ob) (ca : oa.isCells = true) (cb : ob.isCells = true) : KeepsOthers X Y := ⟨h.size, fun i o hi ho => (h.block i (Array.getElem?_eq_some_iff.1 hi).1 (fun e => by subst e; rw [hi] at ha; cases ha; rw [ho] at ca; cases ca) (fun e => by subst e; rw [hi] at hb; cases hb; rw [ho] at cb; cases cb)).trans hi⟩

structure MF (G : Nat → Prop) (w : World) (mv : Value) (t : Nat) (L : List EntD) (X : World) : Prop where
 more : Bxd X w.heap.size 27 mv
 res : Bxd X (w.heap.size + 1) 4 (.bool false)
 lt : w.heap.size + 1 < t
 ptr : Bxd X (t + 1) 25 (.pointer (some ⟨t, 0, none⟩))
 tab : ∃ k, Tb G X t L k false
 below : Below w.heap.size w X
 new : ∀ i, X.heap.size ≤ i → G i
theorem MF.size {G : Nat → Prop} {w X : World} {mv : Value} {t : Nat} {L : List EntD} (h : MF G w mv t L X) : t + 2 ≤ X.heap.size := h.ptr.lt
theorem MF.later {G : Nat → Prop} {w X Y : World} {mv : Value} {t : Nat} {L : List EntD} (h : MF G w mv t L X) (b : Below X.heap.size X Y) : MF G w mv t L Y := by
 obtain ⟨k, hk⟩ := h.tab
 exact ⟨h.more.keep (b.block _ h.more.lt), h.res.keep (b.block _ h.res.lt), h.lt, h.ptr.keep (b.block _ h.ptr.lt), ⟨k, hk.later b⟩, h.below.trans (b.mono h.below.size), fun i hi => h.new i (Nat.le_trans b.size hi)⟩
theorem MF.turn {G : Nat → Prop} {w X Y : World} {mv : Value} {t B : Nat} {L : List EntD} (h : MF G w mv t L X) (b : Turn B X Y) (hB : w.heap.size ≤ B) : MF G w mv t L Y := by
 obtain ⟨k, hk⟩ := h.tab
 exact ⟨h.more.turn b, h.res.turn b, h.lt, h.ptr.turn b, ⟨k, hk.turn b⟩, h.below.trans (b.below.mono hB), fun i hi => h.new i (Nat.le_trans b.below.size hi)⟩
theorem MF.set {G : Nat → Prop} {w X : World} {mv : Value} {t b : Nat} {L : List EntD} (h : MF G w mv t L X) (hb : ¬ G b) (htb : t + 1 < b) (i : Nat) (v : Value) : MF G w mv t L (X.setCell ⟨b, i, none⟩ v) := by
 have ht := h.lt
 obtain ⟨k, hk⟩ := h.tab
 obtain ⟨p, T, h2, h3, h4⟩ := hk.tree
 refine ⟨h.more.keep (Below.heap_setCell _ _ _ _ (by show _ ≠ b; omega)), h.res.keep (Below.heap_setCell _ _ _ _ (by show _ ≠ b; omega)), h.lt, h.ptr.keep (Below.heap_setCell _ _ _ _ (by show _ ≠ b; omega)), ⟨k, hk.not, hk.srt, hk.good, hk.few, p, T, ?_, ?_, h4⟩, h.below.setCell (p := ⟨b, i, none⟩) (by show _ ≤ b; omega) _, fun i hi => h.new i (by rw [World.size_setCell] at hi; exact hi)⟩
 ·exact (Below.heap_setCell _ _ _ _ (by show _ ≠ b; omega)).trans h2
 ·exact h3.kept ((KpG.refl _ X).setCell hb i v)
theorem MF.spare {G : Nat → Prop} {w X Y : World} {mv : Value} {t b : Nat} {L : List EntD} (h : MF G w mv t L X) (hb : X.heap.size ≤ b) (hy : Below X.heap.size X Y) (hlt : b < Y.heap.size) : MF (fun i => G i ∧ i ≠ b) w mv t L Y := by
 have h' := h.later hy
 obtain ⟨k, hk⟩ := h.tab
 obtain ⟨p, T, h2, h3, h4⟩ := hk.tree
 refine ⟨h'.more, h'.res, h'.lt, h'.ptr, ⟨k, fun q => hk.not q.1, hk.srt, hk.good, hk.few, p, T, h2.later hy, (h3.lt.mono (fun i hi => ⟨hi.1, by omega⟩)).kept (KpG.of hy), h4⟩, h'.below, fun i hi => ⟨h'.new i hi, by omega⟩⟩
theorem MF.add {G : Nat → Prop} {w X : World} {mv : Value} {t : Nat} {L : List EntD} {e : EntD} (h : MF G w mv t L X) (he : EntD.Ok X e) (hl : L.length < 1000000) :
  Calls Tryz.prog 19 #[.pointer (some ⟨t, 0, none⟩), .agg e.cells] X fun z w' => ∃ c : Int, z = .returned (.int .i64 c) ∧ Apart t X w' ∧ KU X w' ∧ ∃ L', L.Sublist L' ∧ L'.length ≤ L.length + 1 ∧ MF G w mv t L' w' := by
 obtain ⟨k, hk⟩ := h.tab
 obtain ⟨p, T, tb, -, -⟩ := hk.tree
 have hs := h.size
 have ht := h.lt
 refine (add_tb hk he h.new (by omega)).mono ?_
 rintro z w' ⟨c, rfl, hap, hc⟩
 refine ⟨c, rfl, hap, KU.of_apart hap tb (by decide), ?_⟩
 have base : ∀ L', (∃ k', Tb G w' t L' k' false) → MF G w mv t L' w' := fun L' hL' => ⟨h.more.keep (hap.block _ h.more.lt (by omega)), h.res.keep (hap.block _ h.res.lt (by omega)), h.lt, h.ptr.keep (hap.block _ h.ptr.lt (by omega)), hL', h.below.trans (hap.below (by omega) h.below.size), fun i hi => h.new i (Nat.le_trans hap.size hi)⟩
 rcases hc with ⟨_, h1, _⟩ | ⟨_, _, _, _, A, B, x, h3, h4, h5⟩
 ·exact ⟨L, List.Sublist.refl _, by omega, base L ⟨k, h1⟩⟩
 ·refine ⟨A ++ x :: B, ?_, by rw [h3]; simp; omega, base _ ⟨_, h5⟩⟩
  rw [h3]
  exact List.Sublist.append (List.Sublist.refl _) (List.sublist_cons_self _ _)
structure Wa (t Bw : Nat) (wv : Value) (xs : List EntD) (X : World) : Prop where
 box : Bxd X Bw 27 wv
 row : X.ownsRow (t + 2) 38 7 wv xs.length (evals xs)
 ents : ∀ x ∈ xs, EOk (fun i => t < i) X x
theorem Wa.turn {t Bw B : Nat} {wv : Value} {xs : List EntD} {X Y : World} (h : Wa t Bw wv xs X) (b : Turn B X Y) : Wa t Bw wv xs Y := ⟨h.box.turn b, ownsRow_turn h.row b, fun x hx => (h.ents x hx).keptC b.toC⟩
theorem Wa.later {t Bw : Nat} {wv : Value} {xs : List EntD} {X Y : World} (h : Wa t Bw wv xs X) (b : Below X.heap.size X Y) : Wa t Bw wv xs Y := h.turn (Turn.of b (Nat.le_refl _))
theorem Wa.apart {t Bw : Nat} {wv : Value} {xs : List EntD} {X Y : World} (h : Wa t Bw wv xs X) (b : Apart t X Y) (k : KU X Y) (hB : Bw ≠ t) : Wa t Bw wv xs Y := ⟨h.box.keep (b.block _ h.box.lt hB), ownsRow_apart h.row b (by omega), fun x hx => (h.ents x hx).ku k⟩
theorem Wa.set {t Bw b : Nat} {wv : Value} {xs : List EntD} {X : World} {ty : TypeId} {u : Value} (h : Wa t Bw wv xs X) (hb : Bxd X b ty u) (hty : ty ≠ 5 ∧ ty ≠ 38) (hne : b ≠ Bw) (v : Value) : Wa t Bw wv xs (X.setCell ⟨b, 0, none⟩ v) := by
 refine ⟨h.box.keep (Below.heap_setCell _ _ _ _ (fun e => hne e.symm)), ⟨h.row.1, ?_⟩, fun x hx => (h.ents x hx).ku (KU.set hb hty.1 _ _)⟩
 rcases h.row.2 with h2 | ⟨g, cap, cur, h3, h4, h5, h6⟩
 ·exact .inl h2
 ·refine .inr ⟨g, cap, cur, h3, h4, (Below.heap_setCell _ _ _ _ (fun e => ?_)).trans h5, h6⟩
  have e' : g = b := e
  subst e'
  rw [show X.heap[g]? = _ from hb] at h5
  cases h5
  exact hty.2 rfl
end Go.Proofs.YtpabbnddeklpdaaGreat

namespace Go.Proofs.YtpabbnddeklpdaaGreat
open Go.RowKit
set_option linter.unusedVariables false

theorem Own.far {w w' : World} {B m : Nat} {v : Value} {o : Option Nat} {xs : List Nat} (h : Own w B v m xs) (k : w.grownBy w' o) (hne : ∀ g, o = some g → v.ownBlock ≠ some g) : Own w' B v m xs := by
 refine ⟨h.1, h.2.1, ?_⟩
 rcases h.2.2 with h2 | ⟨g, cap, cur, h3, h4, h5, h6⟩
 ·exact .inl h2
 ·refine .inr ⟨g, cap, cur, h3, h4, ?_, h6⟩
  rw [k.block g (Array.getElem?_eq_some_iff.1 h5).1 ?_]
  ·exact h5
  ·intro e
   exact hne g e.symm (by rw [h3]; rfl)
theorem Laid.far {w w' : World} {B : Nat} {u : Value} {o : Option Nat} {bs : List Nat} (h : Laid w B u bs) (k : w.grownBy w' o) (hne : ∀ g, o = some g → u.ownBlock ≠ some g) : Laid w' B u bs := by
 obtain ⟨g, c, rfl, h2, h3, h4⟩ := h
 exact ⟨g, c, rfl, h2, h3, h4.far k (fun x hx => hne x hx)⟩
theorem Marked.full {w0 w : World} {l : Value} {G mk : Nat} (h : Marked w0 w l G mk) : FullL w G mk := fun i hi => by
 obtain ⟨a, k, c, h1, h2, _⟩ := h.2 i hi
 exact ⟨a, k, c, h1, h2⟩
theorem Marked.far {w0 w w' : World} {l : Value} {G mk : Nat} {o : Option Nat} (h : Marked w0 w l G mk) (k : w.grownBy w' o) (ho : ∀ g, o = some g → g < w0.heap.size ∧ l.ownBlock ≠ some g) : FullL w' G mk := fun i hi => by
 obtain ⟨a, kk, c, h1, h2, h3⟩ := h.2 i hi
 refine ⟨a, kk, c, ?_, ?_⟩
 ·refine k.cell h1 ?_
  intro e
  have := (ho G e.symm).1
  have := h.1
  omega
 ·obtain ⟨q1, a', cap, q2, q3, q4, q5, q6, q7⟩ := h2
  refine ⟨q1, a', cap, q2, q3, q4, q5, q6, ?_⟩
  rcases q7 with q7 | ⟨b, off, rfl, hc⟩
  ·exact .inl q7
  ·refine .inr ⟨b, off, rfl, fun j hj => k.cell (hc j hj) ?_⟩
   intro e
   obtain ⟨e1, e2⟩ := ho b e.symm
   simp only [Value.slice.injEq] at q2
   rw [q2.1] at h3
   rcases h3 with h3 | h3
   ·exact e2 (by rw [← h3]; rfl)
   ·have := h3 b rfl
    omega
theorem below_grows {w wt w' : World} {v : Value} {B n : Nat} {xs : List Nat} (hb : Below w.heap.size w wt) (ho : Own wt B v n xs) (hB : w.heap.size ≤ B) (k : wt.grownBy w' v.ownBlock) : Below w.heap.size w w' :=
 hb.grown k hb.size (fun g hg => Nat.le_trans hB (ho.2.lt g hg).1)

open Classical in
noncomputable def startL (r : List Nat) : List Nat := if RowOk r then ordL r else []
open Classical in
noncomputable def behindL (r : List Nat) : List Nat := if RowOk r then ordL r ++ [255] else []
open Classical in
noncomputable def rowE (r : List Nat) : Nat := if RowOk r then 0 else 20
theorem startL_ok (r : List Nat) (h : Bys r) : Bys (startL r) ∧ (startL r).length ≤ 520 := by
 unfold startL
 split
 ·rename_i k
  exact ⟨ordL_bys r h, by have := rowOk_ord k; omega⟩
 ·exact ⟨by intro x hx; simp at hx, by simp⟩
theorem behindL_ok (r : List Nat) (h : Bys r) : Bys (behindL r) ∧ (behindL r).length ≤ 520 := by
 unfold behindL
 split
 ·rename_i k
  exact ⟨Bys.app (ordL_bys r h) (fun x hx => by simp at hx; omega), by have := rowOk_ord k; simp; omega⟩
 ·exact ⟨by intro x hx; simp at hx, by simp⟩
theorem keyL_pos (e : EntD) : 1 ≤ (keyL e).length := by rw [keyL_parts]; simp; omega

end Go.Proofs.YtpabbnddeklpdaaGreat

namespace Go.Proofs.YtpabbnddeklpdaaGreat
open Go.RowKit
set_option linter.unusedVariables false

set_option maxRecDepth 100000 in
set_option maxHeartbeats 4000000 in
theorem refCheck_any {e : EntD} {w : World} (hok : EntD.Ok w e) :
  Calls Tryz.prog 51 #[.agg e.cells] w fun r w' => r = .returned (.int .i64 ((checkS e : Nat) : Int)) ∧ Below w.heap.size w w' := by
 obtain ⟨vr, fam, vq, ts, seq, kind, vv, row, qual, val⟩ := e
 obtain ⟨h1, h2, h3⟩ := hok
 simp only [EntD.cells] at *
 obtain ⟨ar, nr, cr, rfl⟩ := rd_slice h1
 obtain ⟨aq, nq, cq, rfl⟩ := rd_slice h2
 obtain ⟨av, nv, cv, rfl⟩ := rd_slice h3
 obtain ⟨er, _, _, lr⟩ := rd_lens h1
 obtain ⟨eq, _, _, lq⟩ := rd_lens h2
 obtain ⟨ev, _, _, lv⟩ := rd_lens h3
 have A1 := (Below.refl w.heap.size w).alloc (Nat.le_refl _) (.cells #[.slice ar nr cr, .int .i64 fam, .slice aq nq cq, .int .i64 ts, .int .i64 seq, .int .i64 kind, .slice av nv cv] 38)
 obtain ⟨S, hS⟩ : ∃ S, S = checkS ⟨.slice ar nr cr, fam, .slice aq nq cq, ts, seq, kind, .slice av nv cv, row, qual, val⟩ := ⟨_, rfl⟩
 rw [← hS]
 unfold checkS at hS
 simp only at hS
 rw [← er, ← eq, ← ev] at hS
 have HS : Hid (S = _) := hS
 clear hS er eq ev h1 h2 h3
 go_enter Tryz.func51, Tryz.ntmps51
 go_wp2_with fail
 by_cases c1 : nr = 0 ∨ 256 < nr
 ·refine (refOut_out _ _ _ _ (by omega)).mono ?_
  rintro e1 w1 ⟨rfl, rfl⟩
  have HE : Hid (S = 20) := by unfold Hid; rw [HS.out]; repeat (first | rw [if_pos (by omega)] | rw [if_neg (by omega)])
  clear HS
  go_wp2
  go_ret
  exact ⟨by rw [HE.out]; rfl, A1⟩
 refine (refOut_in _ _ _ _ (by omega) (by omega)).mono ?_
 rintro e1 w1 ⟨rfl, rfl⟩
 go_wp2_with fail
 by_cases c2 : fam < 0 ∨ 8 ≤ fam
 ·refine (refOut_out _ _ _ _ (by omega)).mono ?_
  rintro e1 w1 ⟨rfl, rfl⟩
  have HE : Hid (S = 21) := by unfold Hid; rw [HS.out]; repeat (first | rw [if_pos (by omega)] | rw [if_neg (by omega)])
  clear HS
  go_wp2
  go_ret
  exact ⟨by rw [HE.out]; rfl, A1⟩
 refine (refOut_in _ _ _ _ (by omega) (by omega)).mono ?_
 rintro e1 w1 ⟨rfl, rfl⟩
 by_cases c3 : 256 < nq
 ·have q1 : (256 : Int) < (nq : Int) := by omega
  have HE : Hid (S = 22) := by unfold Hid; rw [HS.out]; repeat (first | rw [if_pos (by omega)] | rw [if_neg (by omega)])
  clear HS
  go_wp2
  go_ret
  exact ⟨by rw [HE.out]; rfl, A1⟩
 have q1 : (nq : Int) ≤ 256 := by omega
 by_cases k5 : kind = 5
 ·subst k5
  by_cases q0 : 0 < nq
  ·have q2 : (0 : Int) < (nq : Int) := by omega
   have HE : Hid (S = 22) := by unfold Hid; rw [HS.out]; repeat (first | rw [if_pos (by omega)] | rw [if_neg (by omega)])
   clear HS
   go_wp2
   go_ret
   exact ⟨by rw [HE.out]; rfl, A1⟩
  have q2 : (nq : Int) ≤ 0 := by omega
  go_wp2_with fail
  by_cases c4 : ts < 1 ∨ 1099511627776 < ts
  ·refine (refOut_out _ _ _ _ (by omega)).mono ?_
   rintro e1 w1 ⟨rfl, rfl⟩
   have HE : Hid (S = 23) := by unfold Hid; rw [HS.out]; repeat (first | rw [if_pos (by omega)] | rw [if_neg (by omega)])
   clear HS
   go_wp2
   go_ret
   exact ⟨by rw [HE.out]; rfl, A1⟩
  refine (refOut_in _ _ _ _ (by omega) (by omega)).mono ?_
  rintro e1 w1 ⟨rfl, rfl⟩
  go_wp2_with fail
  by_cases c5 : seq < 0 ∨ 17592186044431 < seq
  ·refine (refOut_out _ _ _ _ (by omega)).mono ?_
   rintro e1 w1 ⟨rfl, rfl⟩
   have HE : Hid (S = 24) := by unfold Hid; rw [HS.out]; repeat (first | rw [if_pos (by omega)] | rw [if_neg (by omega)])
   clear HS
   go_wp2
   go_ret
   exact ⟨by rw [HE.out]; rfl, A1⟩
  refine (refOut_in _ _ _ _ (by omega) (by omega)).mono ?_
  rintro e1 w1 ⟨rfl, rfl⟩
  go_wp2_with fail
  refine (refOut_in _ _ _ _ (by decide) (by decide)).mono ?_
  rintro e1 w1 ⟨rfl, rfl⟩
  by_cases c7 : 4096 < nv
  ·have v1 : (4096 : Int) < (nv : Int) := by omega
   have HE : Hid (S = 26) := by unfold Hid; rw [HS.out]; repeat (first | rw [if_pos (by omega)] | rw [if_neg (by omega)])
   clear HS
   go_wp2
   go_ret
   exact ⟨by rw [HE.out]; rfl, A1⟩
  have v1 : (nv : Int) ≤ 4096 := by omega
  by_cases c9 : 0 < nv
  ·have v0 : (0 : Int) < (nv : Int) := by omega
   have HE : Hid (S = 26) := by unfold Hid; rw [HS.out]; repeat (first | rw [if_pos (by omega)] | rw [if_neg (by omega)])
   clear HS
   go_wp2
   go_ret
   exact ⟨by rw [HE.out]; rfl, A1⟩
  have v0 : (nv : Int) ≤ 0 := by omega
  have HE : Hid (S = 0) := by unfold Hid; rw [HS.out]; repeat (first | rw [if_pos (by omega)] | rw [if_neg (by omega)])
  clear HS
  go_wp2
  go_ret
  exact ⟨by rw [HE.out]; rfl, A1⟩
 have k51 : (kind == 5) = false := by simp; omega
 go_wp2_with fail
 by_cases c4 : ts < 1 ∨ 1099511627776 < ts
 ·refine (refOut_out _ _ _ _ (by omega)).mono ?_
  rintro e1 w1 ⟨rfl, rfl⟩
  have HE : Hid (S = 23) := by unfold Hid; rw [HS.out]; repeat (first | rw [if_pos (by omega)] | rw [if_neg (by omega)])
  clear HS
  go_wp2
  go_ret
  exact ⟨by rw [HE.out]; rfl, A1⟩
 refine (refOut_in _ _ _ _ (by omega) (by omega)).mono ?_
 rintro e1 w1 ⟨rfl, rfl⟩
 go_wp2_with fail
 by_cases c5 : seq < 0 ∨ 17592186044431 < seq
 ·refine (refOut_out _ _ _ _ (by omega)).mono ?_
  rintro e1 w1 ⟨rfl, rfl⟩
  have HE : Hid (S = 24) := by unfold Hid; rw [HS.out]; repeat (first | rw [if_pos (by omega)] | rw [if_neg (by omega)])
  clear HS
  go_wp2
  go_ret
  exact ⟨by rw [HE.out]; rfl, A1⟩
 refine (refOut_in _ _ _ _ (by omega) (by omega)).mono ?_
 rintro e1 w1 ⟨rfl, rfl⟩
 go_wp2_with fail
 by_cases c6 : kind < 1 ∨ 5 < kind
 ·refine (refOut_out _ _ _ _ (by omega)).mono ?_
  rintro e1 w1 ⟨rfl, rfl⟩
  have HE : Hid (S = 25) := by unfold Hid; rw [HS.out]; repeat (first | rw [if_pos (by omega)] | rw [if_neg (by omega)])
  clear HS
  go_wp2
  go_ret
  exact ⟨by rw [HE.out]; rfl, A1⟩
 refine (refOut_in _ _ _ _ (by omega) (by omega)).mono ?_
 rintro e1 w1 ⟨rfl, rfl⟩
 by_cases c7 : 4096 < nv
 ·have v1 : (4096 : Int) < (nv : Int) := by omega
  have HE : Hid (S = 26) := by unfold Hid; rw [HS.out]; repeat (first | rw [if_pos (by omega)] | rw [if_neg (by omega)])
  clear HS
  go_wp2
  go_ret
  exact ⟨by rw [HE.out]; rfl, A1⟩
 have v1 : (nv : Int) ≤ 4096 := by omega
 by_cases c8 : kind = 1
 ·subst c8
  have HE : Hid (S = 0) := by unfold Hid; rw [HS.out]; repeat (first | rw [if_pos (by omega)] | rw [if_neg (by omega)])
  clear HS
  go_wp2
  go_ret
  exact ⟨by rw [HE.out]; rfl, A1⟩
 have k1 : (kind != 1) = true := by simp; omega
 have k2 : (kind == 1) = false := by simp; omega
 by_cases c9 : 0 < nv
 ·have v0 : (0 : Int) < (nv : Int) := by omega
  have HE : Hid (S = 26) := by unfold Hid; rw [HS.out]; repeat (first | rw [if_pos (by omega)] | rw [if_neg (by omega)])
  clear HS
  go_wp2
  go_ret
  exact ⟨by rw [HE.out]; rfl, A1⟩
 have v0 : (nv : Int) ≤ 0 := by omega
 have HE : Hid (S = 0) := by unfold Hid; rw [HS.out]; repeat (first | rw [if_pos (by omega)] | rw [if_neg (by omega)])
 clear HS
 go_wp2
 go_ret
 exact ⟨by rw [HE.out]; rfl, A1⟩

end Go.Proofs.YtpabbnddeklpdaaGreat
