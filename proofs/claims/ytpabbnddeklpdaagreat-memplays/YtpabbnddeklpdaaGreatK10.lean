import Derived.Test.YtpabbnddeklpdaaGreatK09
namespace Go.Proofs.YtpabbnddeklpdaaGreat
open Go.RowKit Go.Shelf
set_option linter.unusedVariables false
attribute [local go_sem] Oper.semAt_some

set_option maxRecDepth 100000 in
theorem seq_nil (f : Nat) (lb : Array Value) (w : World) : Sem.run Tryz.prog (binOp BinOp.eql 43 (.func (.func f) #[] lb) .nilFunc) w = .ok (.bool false) w := by rfl

set_option maxRecDepth 100000 in
set_option maxHeartbeats 4000000 in
theorem told8_any (w : World) : Calls Tryz.prog 4 #[] w fun e w' => e = .returned (.bool true) ∧ Below w.heap.size w w' := by
 have hb0 := Bxd.new w 4 (.bool false)
 have b0 := (Below.refl w.heap.size w).alloc (Nat.le_refl _) (.cells #[.bool false] 4)
 have hN := td_new w (w.alloc (.cells #[.bool false] 4)) hb0 (by simp) b0
 have HN : Hid (Calls _ _ _ _ _) := hN
 have hsq := seq_nil
 clear hN hb0 b0
 refine (callsIn_wide (n := 9)).1 ?_
 refine callsIn_of_wp_marks Tryz.func4 rfl trivial ?_ rfl
 simp only [Tryz.ntmps4, List.size_toArray, List.length_nil, Nat.reduceSub, Array.replicate_succ, Array.replicate_zero, List.push_toArray, List.append_toArray, List.nil_append, List.cons_append]
 gi_wp2_with fail
 refine ⟨trivial, ?_⟩
 refine (callsIn_wide.2 HN.out).mono ?_
 rintro z W0 ⟨rfl, h0⟩
 have H0 : Hid (Td w [] 0 W0) := h0
 clear h0 HN
 gi_wp2_with fail
 refine ⟨trivial, ?_⟩
 refine (callsIn_wide.2 (at_any 4 _)).mono ?_
 rintro z W1 ⟨r1, q1, v1, rfl, o1, b1⟩
 have H1 : Hid (Td w [] 0 W1) := H0.out.later b1
 have A1 : Hid (Calls _ _ _ _ _) := td_first H1.out o1
 clear o1 b1 H0 H1
 unfold atD EntD.cells at A1
 unfold atD EntD.cells
 gi_wp2_with fail
 refine ⟨trivial, ?_⟩
 refine (callsIn_wide.2 A1.out).mono ?_
 rintro z W2 ⟨rfl, x, k2, sx, h2⟩
 have H2 : Hid (Td w [x] k2 W2 ∧ EntD.Same x (atD r1 q1 v1 4)) := ⟨h2, sx⟩
 clear h2 sx A1
 gi_wp2_with fail
 refine ⟨trivial, ?_⟩
 refine (callsIn_wide.2 (at_any 5 _)).mono ?_
 rintro z W3 ⟨r3, q3, v3, rfl, o3, b3⟩
 have H3 : Hid (Td w [x] k2 W3) := H2.out.1.later b3
 have A3 : Hid (Calls _ _ _ _ _) := td_second H3.out H2.out.2 o3
 clear o3 b3 H3
 unfold atD EntD.cells at A3
 unfold atD EntD.cells
 gi_wp2_with fail
 refine ⟨trivial, ?_⟩
 refine (callsIn_wide.2 A3.out).mono ?_
 rintro z W4 ⟨rfl, y, k4, sy, h4⟩
 have H4 : Hid (Td w [y, x] k4 W4 ∧ EntD.Same y (atD r3 q3 v3 5) ∧ EntD.Same x (atD r1 q1 v1 4)) := ⟨h4, sy, H2.out.2⟩
 clear h4 sy A3 H2
 obtain ⟨p4, T4, tb4, -, -⟩ := H4.out.1.tab.tree
 have HL : Hid (Calls _ _ _ _ _) := len_any tb4
 clear tb4
 gi_wp2_with fail
 refine ⟨trivial, ?_⟩
 refine (callsIn_wide.2 HL.out).mono ?_
 rintro z W5 ⟨rfl, rfl⟩
 clear HL
 gi_wp2_with fail
 refine ⟨trivial, ?_⟩
 refine (callsIn_wide.2 (at_any 5 _)).mono ?_
 rintro z W6 ⟨r6, q6, v6, rfl, o6, b6⟩
 have H6 : Hid (Td w [y, x] k4 W6) := H4.out.1.later b6
 have A6 : Hid (Calls _ _ _ _ _) := td_third H6.out H4.out.2.1 o6
 have HS : Hid (EntD.Same y (atD r3 q3 v3 5) ∧ EntD.Same x (atD r1 q1 v1 4)) := H4.out.2
 clear o6 b6 H6 H4
 unfold atD EntD.cells at A6
 unfold atD EntD.cells
 gi_wp2_with fail
 refine ⟨trivial, ?_⟩
 refine (callsIn_wide.2 A6.out).mono ?_
 rintro z W7 ⟨rfl, h7⟩
 have H7 : Hid (Td w [y, x] k4 W7) := h7
 clear h7 A6
 gi_wp2_with fail
 refine ⟨trivial, ?_⟩
 refine (callsIn_wide.2 (all_any _ _)).mono ?_
 rintro z W8 ⟨rfl, rfl⟩
 have H8 : Hid (Td w [y, x] k4 _) := H7.out.later ((Below.refl _ W7).alloc (Nat.le_refl _) (.cells #[.pointer (some ⟨w.heap.size + 1, 0, none⟩)] 25))
 clear H7
 gi_wp2_with fail
 refine ⟨trivial, ?_⟩
 refine (callsIn_wide.2 (at_any 9 _)).mono ?_
 rintro z W9 ⟨r9, q9, v9, rfl, o9, b9⟩
 have H9 : Hid (Td w [y, x] k4 W9) := H8.out.later b9
 have A9 : Hid (Calls _ _ _ _ _) := from_any (v := some ⟨w.heap.size + 1, 0, none⟩) o9 (by simp [atD])
 clear o9 b9 H8
 unfold atD EntD.cells at A9
 unfold atD EntD.cells
 gi_wp2_with fail
 refine ⟨trivial, ?_⟩
 refine (callsIn_wide.2 A9.out).mono ?_
 rintro z W10 ⟨⟨lb, rfl⟩, b10⟩
 have H10 : Hid (Td w [y, x] k4 W10) := H9.out.later b10
 clear b10 A9 H9
 gi_wp2_with fail
 refine ⟨trivial, ?_⟩
 refine (callsIn_wide.2 (all_any _ _)).mono ?_
 rintro z W11 ⟨rfl, rfl⟩
 gi_wp2_with fail
 have b1 := (Below.refl W10.heap.size W10).alloc (Nat.le_refl _) (.cells #[.int .i64 0] 3)
 have b2 := b1.alloc b1.size (.cells #[.pointer (some ⟨w.heap.size + 1, 0, none⟩)] 25)
 have x1 : Bxd ((W10.alloc (.cells #[.int .i64 0] 3)).alloc (.cells #[.pointer (some ⟨w.heap.size + 1, 0, none⟩)] 25)) W10.heap.size 3 (.int .i64 0) := (Bxd.new W10 _ _).keep (Below.heap_alloc _ _ _ (by simp))
 have x2 : Bxd ((W10.alloc (.cells #[.int .i64 0] 3)).alloc (.cells #[.pointer (some ⟨w.heap.size + 1, 0, none⟩)] 25)) (W10.heap.size + 1) 25 (.pointer (some ⟨w.heap.size + 1, 0, none⟩)) := by
  have := Bxd.new (W10.alloc (.cells #[.int .i64 0] 3)) 25 (.pointer (some ⟨w.heap.size + 1, 0, none⟩))
  rwa [World.size_alloc] at this
 have s2 : ((W10.alloc (.cells #[.int .i64 0] 3)).alloc (.cells #[.pointer (some ⟨w.heap.size + 1, 0, none⟩)] 25)).heap.size = W10.heap.size + 2 := by simp
 have H11 := H10.out.later b2
 obtain ⟨p, T, t1, t2, t3⟩ := H10.out.tab.tree
 have hT2 : IsT (fun i => w.heap.size + 1 < i ∧ i < W10.heap.size) _ p T := t2.lt.kept (KpG.of b2)
 have hb2 := t1.later b2
 have hlens := H10.out.tab.lens
 have hw10 := H10.out.size
 generalize ((W10.alloc (.cells #[.int .i64 0] 3)).alloc (.cells #[.pointer (some ⟨w.heap.size + 1, 0, none⟩)] 25)) = V at *
 refine range_wide (w := V) rfl (enters_of Tryz.func40 (by kernel_rfl) rfl) (encs := fun x : EntD => #[.agg x.cells]) (all_seq x2 hb2 hT2 (by rw [t3]; exact hlens)) (fun h k => h.trans k) (fun X o o' ho hc => KpO.put o o' (by omega) ho hc) (fun _ => rfl)
  (fun pre X => Bxd X w.heap.size 4 (.bool false) ∧ Bxd X W10.heap.size 3 (.int .i64 (pre.length : Int)) ∧ Below w.heap.size w X ∧ V.heap.size ≤ X.heap.size)
  (fun c pre X => False)
  (fun s X h => h.2.2.2)
  (fun s X Z hX ⟨h1, h2, h3, h4⟩ tu => ⟨h1.turn tu, h2.turn tu, h3.trans (tu.below.mono (by omega)), Nat.le_trans h4 tu.below.size⟩)
  (fun c s X Z hX h tu => h)
  ⟨H11.box, x1, H11.below, Nat.le_refl _⟩
  (fun pre x a' X => ∃ Bx, V.heap.size + 6 ≤ Bx ∧ EBox X Bx x ∧ NxC T.ord (V.heap.size + 2) pre x X ∧ a' = { tmps := #[.pointer (some ⟨w.heap.size, 0, none⟩), .pointer (some ⟨w.heap.size + 1, 0, none⟩), .pointer (some ⟨W10.heap.size, 0, none⟩), .pointer (some ⟨Bx, 0, none⟩), .pointer (some ⟨w.heap.size + 1, 0, none⟩), .pointer (some ⟨w.heap.size + 1, 0, none⟩), .bool false, .bool false, .pointer (some ⟨w.heap.size + 1, 0, none⟩), .agg #[r1, .int .i64 0, q1, .int .i64 4, .int .i64 32, .int .i64 1, v1], .int .i64 0, .bool false, .bool false, .bool false, .pointer (some ⟨w.heap.size + 1, 0, none⟩), .agg #[r3, .int .i64 0, q3, .int .i64 5, .int .i64 32, .int .i64 1, v3], .int .i64 0, .bool false, .bool false, .bool false, .pointer (some ⟨w.heap.size + 1, 0, none⟩), .int .i64 2, .bool false, .bool false, .bool false, .pointer (some ⟨w.heap.size + 1, 0, none⟩), .agg #[r6, .int .i64 0, q6, .int .i64 5, .int .i64 32, .int .i64 1, v6], .int .i64 80, .bool false, .bool false, .pointer (some ⟨w.heap.size + 1, 0, none⟩), .func (.func 40) #[] #[.pointer (some ⟨W7.heap.size, 0, none⟩)], .bool false, .bool false, .pointer (some ⟨w.heap.size + 1, 0, none⟩), .agg #[r9, .int .i64 0, q9, .int .i64 9, .int .i64 32, .int .i64 1, v9], .func (.func 25) #[] lb, .bool false, .bool false, .pointer (some ⟨w.heap.size + 1, 0, none⟩), .func (.func 40) #[] #[.pointer (some ⟨W10.heap.size + 1, 0, none⟩)], .agg x.cells, undef, undef, undef, undef, undef, undef, undef, undef, undef, undef], defers := [] })
  (fun pre x a' _ X Z hX ⟨Bx, k0, k1, k2, k3⟩ tu => ⟨Bx, k0, tu.cells _ _ k1 rfl, ⟨Nat.le_trans k2.1 tu.below.size, k2.2.1, k2.2.2.keptC tu.toC⟩, k3⟩)
  ?assign ?body ?done ?stop (fun c s X h => h.elim)
 case assign =>
  intro l' pre x X K hi hsX hgd hK
  have hsX' : V.heap.size + 6 ≤ X.heap.size := hgd.1
  obtain ⟨vr, fam, vq, ts, seq, kind, vv, row, qual, val⟩ := x
  have r1' : Rd X vr row := hgd.2.2.1.1
  have r2' : Rd X vq qual := hgd.2.2.2.1.1
  have r3' : Rd X vv val := hgd.2.2.2.2.1
  obtain ⟨ar, nr, cr, rfl⟩ := rd_slice r1'
  obtain ⟨aq, nq, cq, rfl⟩ := rd_slice r2'
  obtain ⟨av, nv, cv, rfl⟩ := rd_slice r3'
  have hbb := (Below.refl X.heap.size X).alloc (Nat.le_refl _) (.cells (EntD.mk (.slice ar nr cr) fam (.slice aq nq cq) ts seq kind (.slice av nv cv) row qual val).cells 38)
  have tu := Turn.of (B := V.heap.size) hbb (by omega)
  have HI : Hid (Bxd _ w.heap.size 4 (.bool false) ∧ Bxd _ W10.heap.size 3 (.int .i64 (pre.length : Int)) ∧ Below w.heap.size w _ ∧ V.heap.size ≤ _) := (fun ⟨h1, h2, h3, h4⟩ => ⟨h1.turn tu, h2.turn tu, h3.trans (tu.below.mono (by omega)), Nat.le_trans h4 tu.below.size⟩) hi
  have HNx : Hid (NxC T.ord (V.heap.size + 2) pre _ _) := ⟨Nat.le_trans hgd.1 tu.below.size, hgd.2.1, hgd.2.2.keptC tu.toC⟩
  have HT : Hid (KpO (fun i => w.heap.size + 1 < i ∧ i < W10.heap.size) (V.heap.size + 2) X _) := ⟨tu.toC, Oth.of hbb⟩
  have HX : Hid (EBox (X.alloc (.cells (EntD.mk (.slice ar nr cr) fam (.slice aq nq cq) ts seq kind (.slice av nv cv) row qual val).cells 38)) X.heap.size _) := EBox.new X _
  clear hbb tu hi hgd r1' r2' r3'
  simp only [EntD.cells] at *
  gi_wp2
  exact hK _ _ ((KeepsOthers.alloc _ _).from _) HT.out HI.out ⟨X.heap.size, hsX', HX.out, HNx.out, rfl⟩
 case body =>
  rintro l' pre x1' a' X ⟨h1, h2, h3, h4⟩ ⟨Bx, hBx, bx, hnx, rfl⟩
  have hmx : Tryz.prog.follows .mixedOrders = true := by kernel_rfl
  rw [t3] at hnx
  obtain ⟨sy, sx⟩ := HS.out
  have hz : ∃ n : Nat, pre.length = n ∧ n ≤ 1 ∧ ∀ a b c, EntD.Same x1' (atD a b c (5 - (n : Int))) := by
   rcases nx2 hnx with ⟨e, hs⟩ | ⟨e, hs⟩
   ·exact ⟨0, e, by omega, fun a b c => ⟨hs.1.trans sy.1, hs.2.1.trans sy.2.1, hs.2.2.1.trans sy.2.2.1, hs.2.2.2.1.trans sy.2.2.2.1, hs.2.2.2.2.1.trans sy.2.2.2.2.1, hs.2.2.2.2.2.1.trans sy.2.2.2.2.2.1, hs.2.2.2.2.2.2.trans sy.2.2.2.2.2.2⟩⟩
   ·exact ⟨1, e, by omega, fun a b c => ⟨hs.1.trans sx.1, hs.2.1.trans sx.2.1, hs.2.2.1.trans sx.2.2.1, hs.2.2.2.1.trans sx.2.2.2.1, hs.2.2.2.2.1.trans sx.2.2.2.2.1, hs.2.2.2.2.2.1.trans sx.2.2.2.2.2.1, hs.2.2.2.2.2.2.trans sx.2.2.2.2.2.2⟩⟩
  obtain ⟨n, hn, hn1, hsm⟩ := hz
  have n0 := h2.cell
  have f0 := h2.fz
  rw [hn] at n0
  have D0 : Below X.heap.size X X.drew := (Below.refl _ _).drew
  have HAt : Hid (∀ Z, Calls Tryz.prog 20 #[.int .i64 (5 - (n : Int))] Z fun e w' => ∃ t3 : Value × Value × Value, e = .returned (.agg #[t3.1, .int .i64 0, t3.2.1, .int .i64 (5 - (n : Int)), .int .i64 32, .int .i64 1, t3.2.2]) ∧ EntD.Ok w' (atD t3.1 t3.2.1 t3.2.2 (5 - (n : Int))) ∧ Below Z.heap.size Z w') := fun Z => (at_any _ Z).mono (fun e w' ⟨a, b, c, h1, h2, h3⟩ => ⟨(a, b, c), h1, h2, h3⟩)
  have HSe : Hid (∀ Z, Below X.heap.size X Z → ∀ t3 : Value × Value × Value, EntD.Ok Z (atD t3.1 t3.2.1 t3.2.2 (5 - (n : Int))) → Calls Tryz.prog 11 #[.agg #[x1'.vr, .int .i64 x1'.fam, x1'.vq, .int .i64 x1'.ts, .int .i64 x1'.seq, .int .i64 x1'.kind, x1'.vv], .agg #[t3.1, .int .i64 0, t3.2.1, .int .i64 (5 - (n : Int)), .int .i64 32, .int .i64 1, t3.2.2]] Z fun r w' => r = .returned (.bool true) ∧ Below Z.heap.size Z w') := fun Z b t3 ho => by
   refine (se_any (hnx.2.2.ok.later b) ho).mono ?_
   rintro r w' ⟨rfl, hb⟩
   rw [decide_eq_true (hsm _ _ _)]
   exact ⟨rfl, hb⟩
  obtain ⟨c0, c1, c2, c3, c4, c5, c6⟩ := (⟨bx.vr, bx.fam, bx.vq, bx.ts, bx.seq, bx.kind, bx.vv⟩ : _ ∧ _ ∧ _ ∧ _ ∧ _ ∧ _ ∧ _)
  have HB : Hid (∀ Z, Below X.heap.size X Z → EBox Z Bx x1' ∧ Bxd Z w.heap.size 4 (.bool false) ∧ Bxd Z W10.heap.size 3 (.int .i64 (n : Int)) ∧ Below w.heap.size w Z) := fun Z b => ⟨bx.later b, h1.keep (b.block _ h1.lt), (by rw [← hn]; exact h2.keep (b.block _ h2.lt)), h3.trans (b.mono h3.size)⟩
  unfold EntD.cells
  clear h1 h2 h3 bx hnx hsm sy sx
  have hwr : IntKind.i64.wrap (5 - (n : Int)) = 5 - (n : Int) := wrap_ok _ (by omega) (by omega)
  have hwn : IntKind.i64.wrap ((n : Int) + 1) = (n : Int) + 1 := wrap_ok _ (by omega) (by omega)
  gi_wp2_with fail
  gi_region_with_o (first | (refine ⟨trivial, ?_⟩; gi_at_call 20; refine (CallsIn.inRound l' (callsIn_wide.2 (HAt.out _))).mono ?_; rintro z w1 ⟨t9, rfl, ho, hb1⟩; have D1 := D0.trans (hb1.mono D0.size); obtain ⟨d0, d1, d2, d3, d4, d5, d6⟩ := (⟨(HB.out _ D1).1.vr, (HB.out _ D1).1.fam, (HB.out _ D1).1.vq, (HB.out _ D1).1.ts, (HB.out _ D1).1.seq, (HB.out _ D1).1.kind, (HB.out _ D1).1.vv⟩ : _ ∧ _ ∧ _ ∧ _ ∧ _ ∧ _ ∧ _)) | (refine ⟨trivial, ?_⟩; gi_at_call 11; refine (CallsIn.inRound l' (callsIn_wide.2 (HSe.out _ D1 t9 ho))).mono ?_; rintro z w2 ⟨rfl, hb2⟩; have D2 := D1.trans (hb2.mono D1.size); have m0 := (HB.out _ D2).2.2.1.cell; have m1 := (HB.out _ D2).2.2.1.fz))
  all_goals
   gi_wp2
   obtain ⟨-, g1, g2, g3⟩ := HB.out _ D2
   have hsz2 : X.heap.size ≤ w2.heap.size := D2.size
   have hKO : KeepsOthers X (w2.setCell ⟨W10.heap.size, 0, none⟩ (.int .i64 ((n : Int) + 1))) := ⟨by rw [World.size_setCell]; exact D2.size, fun i o hi ho => (KeepsOthers.setCell w2 ⟨W10.heap.size, 0, none⟩ (.int .i64 ((n : Int) + 1))).same i o ((D2.block i (Array.getElem?_eq_some_iff.1 hi).1).trans hi) ho⟩
   refine ⟨hKO.from _, ⟨⟨hKO.size, fun i o hi ho hg => ?_⟩, hKO.size, fun i o _ hi ho => hKO.same i o hi ho⟩, g1.keep (Below.heap_setCell _ _ _ _ (by show _ ≠ W10.heap.size; omega)), ?_, g3.setCell (p := ⟨W10.heap.size, 0, none⟩) (by show _ ≤ W10.heap.size; omega) _, Nat.le_trans h4 hKO.size⟩
   ·rw [Below.heap_setCell _ _ _ _ (show i ≠ W10.heap.size by omega), D2.block i (Array.getElem?_eq_some_iff.1 hi).1]; exact hi
   ·rw [List.length_append, hn]; exact g2.set _
 case done =>
  rintro D xs X hD hsm ⟨h1, h2, h3, h4⟩ hdf
  have hl := hsm.len
  rw [t3] at hl
  rw [hl] at h2
  have n0 := h2.cell
  have e0 := h1.cell
  have e1 := h1.fz
  gi_wp2
  have hdf' : (X.setCell ⟨w.heap.size, 0, none⟩ (.bool true)).heap[D]? = some (.deferred (some [])) := (Below.heap_setCell _ _ _ _ (by show _ ≠ w.heap.size; omega)).trans hdf
  refine ⟨by simp, .inl ⟨_, _, rfl, run_takeDeferred hdf', ?_⟩⟩
  have hR : ((X.setCell ⟨w.heap.size, 0, none⟩ (.bool true)).putObj D (.deferred none)).cell? ⟨w.heap.size, 0, none⟩ = some (.bool true) := ((h1.set (.bool true)).keep (World.putObj_heap_other (by omega))).cell
  have hBl : Below w.heap.size w ((X.setCell ⟨w.heap.size, 0, none⟩ (.bool true)).putObj D (.deferred none)) := by
   have b5 := h3.setCell (p := ⟨w.heap.size, 0, none⟩) (Nat.le_refl _) (.bool true)
   exact b5.trans ((Turn.put (B := w.heap.size) (.deferred none) b5.size (by omega) hdf' rfl).below)
  refine ⟨.bool true, by simp [results, Tryz.results4, go_sem, hR], rfl, hBl⟩
 case stop =>
  rintro D c pre X hD hsp h hdf
  exact h.elim
end Go.Proofs.YtpabbnddeklpdaaGreat

namespace Go.Proofs.YtpabbnddeklpdaaGreat
open Go.RowKit
set_option linter.unusedVariables false

theorem EntD.Same.rfl' (a : EntD) : EntD.Same a a := ⟨rfl, rfl, rfl, rfl, rfl, rfl, rfl⟩
theorem EntD.Same.trans {a b c : EntD} (h : EntD.Same a b) (k : EntD.Same b c) : EntD.Same a c := ⟨h.1.trans k.1, h.2.1.trans k.2.1, h.2.2.1.trans k.2.2.1, h.2.2.2.1.trans k.2.2.2.1, h.2.2.2.2.1.trans k.2.2.2.2.1, h.2.2.2.2.2.1.trans k.2.2.2.2.2.1, h.2.2.2.2.2.2.trans k.2.2.2.2.2.2⟩
theorem Sm.get : ∀ {xs ys : List EntD}, Sm xs ys → ∀ (i : Nat) (x y : EntD), xs[i]? = some x → ys[i]? = some y → EntD.Same x y
 | [], [], _, i, x, y, h, _ => by simp at h
 | a :: xs, b :: ys, h, 0, x, y, hx, hy => by simp at hx hy; subst hx hy; exact h.1
 | a :: xs, b :: ys, h, i + 1, x, y, hx, hy => Sm.get h.2 i x y (by simpa using hx) (by simpa using hy)
 | [], _ :: _, h, _, _, _, _, _ => h.elim
 | _ :: _, [], h, _, _, _, _, _ => h.elim
def Emb : List EntD → List EntD → Prop
 | [], _ => True
 | _ :: _, [] => False
 | a :: us, b :: bs => (EntD.Same b a ∧ Emb us bs) ∨ Emb (a :: us) bs
/-! ### Entries of a row -/
theorem evals_length (xs : List EntD) : (evals xs).length = xs.length * 7 := by
 induction xs with
 | nil => rfl
 | cons x xs ih => simp [evals, EntD.cells] at *; omega
theorem evals_get : ∀ (xs : List EntD) (i j : Nat) (x : EntD), xs[i]? = some x → j < 7 → (evals xs)[i * 7 + j]? = x.cells.toList[j]?
 | [], i, j, x, h, _ => by simp at h
 | a :: xs, 0, j, x, h, hj => by
  simp at h; subst h
  have : evals (a :: xs) = a.cells.toList ++ evals xs := by simp [evals]
  rw [this, Nat.zero_mul, Nat.zero_add, List.getElem?_append_left (by simp [EntD.cells]; omega)]
 | a :: xs, i + 1, j, x, h, hj => by
  have : evals (a :: xs) = a.cells.toList ++ evals xs := by simp [evals]
  rw [this, List.getElem?_append_right (by simp [EntD.cells]; omega)]
  have e : (i + 1) * 7 + j - a.cells.toList.length = i * 7 + j := by simp [EntD.cells]; omega
  rw [e]
  exact evals_get xs i j x (by simpa using h) hj
def Cs (w : World) (b o : Nat) (x : EntD) : Prop := w.cell? ⟨b, o, none⟩ = some x.vr ∧ w.cell? ⟨b, o + 1, none⟩ = some (.int .i64 x.fam) ∧ w.cell? ⟨b, o + 2, none⟩ = some x.vq ∧ w.cell? ⟨b, o + 3, none⟩ = some (.int .i64 x.ts) ∧ w.cell? ⟨b, o + 4, none⟩ = some (.int .i64 x.seq) ∧ w.cell? ⟨b, o + 5, none⟩ = some (.int .i64 x.kind) ∧ w.cell? ⟨b, o + 6, none⟩ = some x.vv
theorem row_cells {w : World} {B n : Nat} {v : Value} {xs : List EntD} (h : w.ownsRow B 38 7 v n (evals xs)) {i : Nat} {x : EntD} (hx : xs[i]? = some x) : ∃ g cap, v = .slice (some ⟨g, 0, none⟩) xs.length cap ∧ B ≤ g ∧ Cs w g (i * 7) x := by
 have hn : n = xs.length := by have := h.1; rw [evals_length] at this; omega
 have hi : i < xs.length := (List.getElem?_eq_some_iff.1 hx).1
 rcases h.2 with ⟨rfl, h0⟩ | ⟨g, cap, cur, rfl, hB, hg, hle, _, hsz, htk⟩
 ·omega
 ·refine ⟨g, cap, by rw [hn], hB, ?_⟩
  have key : ∀ j, j < 7 → w.cell? ⟨g, i * 7 + j, none⟩ = x.cells.toList[j]? := fun j hj => by
   have e1 := evals_get xs i j x hx hj
   rw [← htk, List.getElem?_take_of_lt (by rw [hn]; omega)] at e1
   simp only [World.cell?, hg]
   rw [← Array.getElem?_toList]; exact e1
  refine ⟨?_, ?_, ?_, ?_, ?_, ?_, ?_⟩
  ·exact key 0 (by omega)
  ·exact key 1 (by omega)
  ·exact key 2 (by omega)
  ·exact key 3 (by omega)
  ·exact key 4 (by omega)
  ·exact key 5 (by omega)
  ·exact key 6 (by omega)
def RdE (w : World) (v : Value) (xs : List EntD) : Prop := ∃ a cap, v = .slice a xs.length cap ∧ xs.length ≤ cap ∧ cap ≤ maxLen ∧ xs.length ≤ 281474976710656 ∧ ∀ i x, xs[i]? = some x → EntD.Ok w x ∧ ∃ b off, a = some ⟨b, off, none⟩ ∧ Cs w b (off + i * 7) x
theorem Cs.later {w w' : World} {b o : Nat} {x : EntD} (h : Cs w b o x) (hb : Below w.heap.size w w') : Cs w' b o x := by
 have hl : b < w.heap.size := World.block_lt_of_cell? w _ h.1
 obtain ⟨h0, h1, h2, h3, h4, h5, h6⟩ := h
 exact ⟨(hb.cell (p := ⟨b, o, none⟩) hl).trans h0, (hb.cell (p := ⟨b, o + 1, none⟩) hl).trans h1, (hb.cell (p := ⟨b, o + 2, none⟩) hl).trans h2, (hb.cell (p := ⟨b, o + 3, none⟩) hl).trans h3, (hb.cell (p := ⟨b, o + 4, none⟩) hl).trans h4, (hb.cell (p := ⟨b, o + 5, none⟩) hl).trans h5, (hb.cell (p := ⟨b, o + 6, none⟩) hl).trans h6⟩
end Go.Proofs.YtpabbnddeklpdaaGreat

namespace Go.Proofs.YtpabbnddeklpdaaGreat
open Go.RowKit Go.Shelf
set_option linter.unusedVariables false
attribute [local go_sem] Oper.semAt_some

structure Two (a b : Nat) (X Y : World) : Prop where
 size : X.heap.size ≤ Y.heap.size
 block : ∀ i, i < X.heap.size → i ≠ a → i ≠ b → Y.heap[i]? = X.heap[i]?
theorem Two.trans {a b : Nat} {X Y Z : World} (h : Two a b X Y) (k : Two a b Y Z) : Two a b X Z := ⟨Nat.le_trans h.size k.size, fun i hi ha hb => (k.block i (Nat.lt_of_lt_of_le hi h.size) ha hb).trans (h.block i hi ha hb)⟩
structure MF (G : Nat → Prop) (w : World) (mv : Value) (t : Nat) (L : List EntD) (X : World) : Prop where
 more : Bxd X w.heap.size 27 mv
 res : Bxd X (w.heap.size + 1) 4 (.bool false)
 lt : w.heap.size + 1 < t
 ptr : Bxd X (t + 1) 25 (.pointer (some ⟨t, 0, none⟩))
 tab : ∃ k, Tb G X t L k false
 below : Below w.heap.size w X
 new : ∀ i, X.heap.size ≤ i → G i
theorem MF.size {G : Nat → Prop} {w X : World} {mv : Value} {t : Nat} {L : List EntD} (h : MF G w mv t L X) : t + 2 ≤ X.heap.size := h.ptr.lt
structure Wa (t Bw : Nat) (wv : Value) (xs : List EntD) (X : World) : Prop where
 box : Bxd X Bw 27 wv
 row : X.ownsRow (t + 2) 38 7 wv xs.length (evals xs)
 ents : ∀ x ∈ xs, EOk (fun i => t < i) X x
end Go.Proofs.YtpabbnddeklpdaaGreat

namespace Go.Proofs.YtpabbnddeklpdaaGreat
open Go.RowKit
set_option linter.unusedVariables false

open Classical in
noncomputable def startL (r : List Nat) : List Nat := if RowOk r then ordL r else []
open Classical in
noncomputable def behindL (r : List Nat) : List Nat := if RowOk r then ordL r ++ [255] else []
open Classical in
noncomputable def rowE (r : List Nat) : Nat := if RowOk r then 0 else 20
end Go.Proofs.YtpabbnddeklpdaaGreat

namespace Go.Proofs.YtpabbnddeklpdaaGreat
open Go.RowKit
set_option linter.unusedVariables false

set_option maxRecDepth 100000 in
set_option maxHeartbeats 4000000 in
theorem refCheck_any {e : EntD} {w : World} (hok : EntD.Ok w e) :
  Calls Tryz.prog 51 #[.agg e.cells] w fun r w' => r = .returned (.int .i64 ((checkS e : Nat) : Int)) ∧ Below w.heap.size w w' := by
 obtain ⟨vr, fam, vq, ts, seq, kind, vv, row, qual, val⟩ := e
 obtain ⟨h1, h2, h3⟩ := hok
 simp only [EntD.cells] at *
 obtain ⟨ar, nr, cr, rfl⟩ := rd_slice h1
 obtain ⟨aq, nq, cq, rfl⟩ := rd_slice h2
 obtain ⟨av, nv, cv, rfl⟩ := rd_slice h3
 obtain ⟨er, _, _, lr⟩ := rd_lens h1
 obtain ⟨eq, _, _, lq⟩ := rd_lens h2
 obtain ⟨ev, _, _, lv⟩ := rd_lens h3
 have A1 := (Below.refl w.heap.size w).alloc (Nat.le_refl _) (.cells #[.slice ar nr cr, .int .i64 fam, .slice aq nq cq, .int .i64 ts, .int .i64 seq, .int .i64 kind, .slice av nv cv] 38)
 obtain ⟨S, hS⟩ : ∃ S, S = checkS ⟨.slice ar nr cr, fam, .slice aq nq cq, ts, seq, kind, .slice av nv cv, row, qual, val⟩ := ⟨_, rfl⟩
 rw [← hS]
 unfold checkS at hS
 simp only at hS
 rw [← er, ← eq, ← ev] at hS
 have HS : Hid (S = _) := hS
 clear hS er eq ev h1 h2 h3
 go_enter Tryz.func51, Tryz.ntmps51
 go_wp2_with fail
 by_cases c1 : nr = 0 ∨ 256 < nr
 ·refine (refOut_out _ _ _ _ (by omega)).mono ?_
  rintro e1 w1 ⟨rfl, rfl⟩
  have HE : Hid (S = 20) := by unfold Hid; rw [HS.out]; repeat (first | rw [if_pos (by omega)] | rw [if_neg (by omega)])
  clear HS
  go_wp2
  go_ret
  exact ⟨by rw [HE.out]; rfl, A1⟩
 refine (refOut_in _ _ _ _ (by omega) (by omega)).mono ?_
 rintro e1 w1 ⟨rfl, rfl⟩
 go_wp2_with fail
 by_cases c2 : fam < 0 ∨ 8 ≤ fam
 ·refine (refOut_out _ _ _ _ (by omega)).mono ?_
  rintro e1 w1 ⟨rfl, rfl⟩
  have HE : Hid (S = 21) := by unfold Hid; rw [HS.out]; repeat (first | rw [if_pos (by omega)] | rw [if_neg (by omega)])
  clear HS
  go_wp2
  go_ret
  exact ⟨by rw [HE.out]; rfl, A1⟩
 refine (refOut_in _ _ _ _ (by omega) (by omega)).mono ?_
 rintro e1 w1 ⟨rfl, rfl⟩
 by_cases c3 : 256 < nq
 ·have q1 : (256 : Int) < (nq : Int) := by omega
  have HE : Hid (S = 22) := by unfold Hid; rw [HS.out]; repeat (first | rw [if_pos (by omega)] | rw [if_neg (by omega)])
  clear HS
  go_wp2
  go_ret
  exact ⟨by rw [HE.out]; rfl, A1⟩
 have q1 : (nq : Int) ≤ 256 := by omega
 by_cases k5 : kind = 5
 ·subst k5
  by_cases q0 : 0 < nq
  ·have q2 : (0 : Int) < (nq : Int) := by omega
   have HE : Hid (S = 22) := by unfold Hid; rw [HS.out]; repeat (first | rw [if_pos (by omega)] | rw [if_neg (by omega)])
   clear HS
   go_wp2
   go_ret
   exact ⟨by rw [HE.out]; rfl, A1⟩
  have q2 : (nq : Int) ≤ 0 := by omega
  go_wp2_with fail
  by_cases c4 : ts < 1 ∨ 1099511627776 < ts
  ·refine (refOut_out _ _ _ _ (by omega)).mono ?_
   rintro e1 w1 ⟨rfl, rfl⟩
   have HE : Hid (S = 23) := by unfold Hid; rw [HS.out]; repeat (first | rw [if_pos (by omega)] | rw [if_neg (by omega)])
   clear HS
   go_wp2
   go_ret
   exact ⟨by rw [HE.out]; rfl, A1⟩
  refine (refOut_in _ _ _ _ (by omega) (by omega)).mono ?_
  rintro e1 w1 ⟨rfl, rfl⟩
  go_wp2_with fail
  by_cases c5 : seq < 0 ∨ 17592186044431 < seq
  ·refine (refOut_out _ _ _ _ (by omega)).mono ?_
   rintro e1 w1 ⟨rfl, rfl⟩
   have HE : Hid (S = 24) := by unfold Hid; rw [HS.out]; repeat (first | rw [if_pos (by omega)] | rw [if_neg (by omega)])
   clear HS
   go_wp2
   go_ret
   exact ⟨by rw [HE.out]; rfl, A1⟩
  refine (refOut_in _ _ _ _ (by omega) (by omega)).mono ?_
  rintro e1 w1 ⟨rfl, rfl⟩
  go_wp2_with fail
  refine (refOut_in _ _ _ _ (by decide) (by decide)).mono ?_
  rintro e1 w1 ⟨rfl, rfl⟩
  by_cases c7 : 4096 < nv
  ·have v1 : (4096 : Int) < (nv : Int) := by omega
   have HE : Hid (S = 26) := by unfold Hid; rw [HS.out]; repeat (first | rw [if_pos (by omega)] | rw [if_neg (by omega)])
   clear HS
   go_wp2
   go_ret
   exact ⟨by rw [HE.out]; rfl, A1⟩
  have v1 : (nv : Int) ≤ 4096 := by omega
  by_cases c9 : 0 < nv
  ·have v0 : (0 : Int) < (nv : Int) := by omega
   have HE : Hid (S = 26) := by unfold Hid; rw [HS.out]; repeat (first | rw [if_pos (by omega)] | rw [if_neg (by omega)])
   clear HS
   go_wp2
   go_ret
   exact ⟨by rw [HE.out]; rfl, A1⟩
  have v0 : (nv : Int) ≤ 0 := by omega
  have HE : Hid (S = 0) := by unfold Hid; rw [HS.out]; repeat (first | rw [if_pos (by omega)] | rw [if_neg (by omega)])
  clear HS
  go_wp2
  go_ret
  exact ⟨by rw [HE.out]; rfl, A1⟩
 have k51 : (kind == 5) = false := by simp; omega
 go_wp2_with fail
 by_cases c4 : ts < 1 ∨ 1099511627776 < ts
 ·refine (refOut_out _ _ _ _ (by omega)).mono ?_
  rintro e1 w1 ⟨rfl, rfl⟩
  have HE : Hid (S = 23) := by unfold Hid; rw [HS.out]; repeat (first | rw [if_pos (by omega)] | rw [if_neg (by omega)])
  clear HS
  go_wp2
  go_ret
  exact ⟨by rw [HE.out]; rfl, A1⟩
 refine (refOut_in _ _ _ _ (by omega) (by omega)).mono ?_
 rintro e1 w1 ⟨rfl, rfl⟩
 go_wp2_with fail
 by_cases c5 : seq < 0 ∨ 17592186044431 < seq
 ·refine (refOut_out _ _ _ _ (by omega)).mono ?_
  rintro e1 w1 ⟨rfl, rfl⟩
  have HE : Hid (S = 24) := by unfold Hid; rw [HS.out]; repeat (first | rw [if_pos (by omega)] | rw [if_neg (by omega)])
  clear HS
  go_wp2
  go_ret
  exact ⟨by rw [HE.out]; rfl, A1⟩
 refine (refOut_in _ _ _ _ (by omega) (by omega)).mono ?_
 rintro e1 w1 ⟨rfl, rfl⟩
 go_wp2_with fail
 by_cases c6 : kind < 1 ∨ 5 < kind
 ·refine (refOut_out _ _ _ _ (by omega)).mono ?_
  rintro e1 w1 ⟨rfl, rfl⟩
  have HE : Hid (S = 25) := by unfold Hid; rw [HS.out]; repeat (first | rw [if_pos (by omega)] | rw [if_neg (by omega)])
  clear HS
  go_wp2
  go_ret
  exact ⟨by rw [HE.out]; rfl, A1⟩
 refine (refOut_in _ _ _ _ (by omega) (by omega)).mono ?_
 rintro e1 w1 ⟨rfl, rfl⟩
 by_cases c7 : 4096 < nv
 ·have v1 : (4096 : Int) < (nv : Int) := by omega
  have HE : Hid (S = 26) := by unfold Hid; rw [HS.out]; repeat (first | rw [if_pos (by omega)] | rw [if_neg (by omega)])
  clear HS
  go_wp2
  go_ret
  exact ⟨by rw [HE.out]; rfl, A1⟩
 have v1 : (nv : Int) ≤ 4096 := by omega
 by_cases c8 : kind = 1
 ·subst c8
  have HE : Hid (S = 0) := by unfold Hid; rw [HS.out]; repeat (first | rw [if_pos (by omega)] | rw [if_neg (by omega)])
  clear HS
  go_wp2
  go_ret
  exact ⟨by rw [HE.out]; rfl, A1⟩
 have k1 : (kind != 1) = true := by simp; omega
 have k2 : (kind == 1) = false := by simp; omega
 by_cases c9 : 0 < nv
 ·have v0 : (0 : Int) < (nv : Int) := by omega
  have HE : Hid (S = 26) := by unfold Hid; rw [HS.out]; repeat (first | rw [if_pos (by omega)] | rw [if_neg (by omega)])
  clear HS
  go_wp2
  go_ret
  exact ⟨by rw [HE.out]; rfl, A1⟩
 have v0 : (nv : Int) ≤ 0 := by omega
 have HE : Hid (S = 0) := by unfold Hid; rw [HS.out]; repeat (first | rw [if_pos (by omega)] | rw [if_neg (by omega)])
 clear HS
 go_wp2
 go_ret
 exact ⟨by rw [HE.out]; rfl, A1⟩

end Go.Proofs.YtpabbnddeklpdaaGreat

namespace Go.Proofs.YtpabbnddeklpdaaGreat
open Go.RowKit
set_option linter.unusedVariables false

set_option maxRecDepth 100000 in
set_option maxHeartbeats 4000000 in
theorem refkey_any {e : EntD} {w : World} (hok : EntD.Ok w e) (hc : checkS e = 0) :
  Calls Tryz.prog 53 #[.agg e.cells] w fun r w' => ∃ a m c, r = .returned (.slice a m c) ∧ Own w' w.heap.size (.slice a m c) m (keyL e) ∧ Below w.heap.size w w' := by
 obtain ⟨f1, f2, f3, f4, f5, f6, f7, _, _⟩ := check_facts hc
 have A1 := (Below.refl w.heap.size w).alloc (Nat.le_refl _) (.cells e.cells 38)
 have bx1 : Hid (EBox (w.alloc (.cells e.cells 38)) w.heap.size e) := EBox.new w e
 obtain ⟨vr, fam, vq, ts, seq, kind, vv, row, qual, val⟩ := e
 obtain ⟨h1, h2, h3⟩ := hok
 simp only [EntD.cells] at *
 obtain ⟨fm, rfl⟩ := Int.eq_ofNat_of_zero_le f2.1
 obtain ⟨t, rfl⟩ := Int.eq_ofNat_of_zero_le (show 0 ≤ ts by omega)
 obtain ⟨sq, rfl⟩ := Int.eq_ofNat_of_zero_le f6.1
 obtain ⟨kd, rfl⟩ := Int.eq_ofNat_of_zero_le (show 0 ≤ kind by omega)
 have HOR : Hid ((ordL row).length ≤ 514 ∧ Bys (ordL row)) := ⟨by have := ordL_len row; have : row.count 0 ≤ row.length := List.count_le_length; omega, ordL_bys row h1.1⟩
 have HOQ : Hid ((ordL qual).length ≤ 514 ∧ Bys (ordL qual)) := ⟨by have := ordL_len qual; have : qual.count 0 ≤ qual.length := List.count_le_length; omega, ordL_bys qual h2.1⟩
 have hfm : fm < 8 := by omega
 have hkd : kd ≤ 5 := by omega
 have hts : t < 9223372036854775808 := by omega
 have hsq : sq < 9223372036854775808 := by omega
 have em1 : (fm : Int) % 256 = (fm : Int) := by omega
 have em2 : (kd : Int) % 256 = (kd : Int) := by omega
 have HRR : Hid (Rd w vr row) := h1
 have HRQ : Hid (Rd w vq qual) := h2
 clear h1 h2 h3 f1 f2 f3 f5 f6 f7 f4 hc
 go_enter Tryz.func53, Tryz.ntmps53
 go_wp2_with fail
 refine (refOrdered_any (HRR.out.later A1) (by have := HOR.out.1; omega)).mono ?_
 rintro e1 w1 ⟨a1, m1, c1, rfl, own1x, hb1⟩
 have B1 := A1.trans (hb1.mono A1.size)
 have bxw1 : Hid (EBox w1 w.heap.size _) := bx1.out.later hb1
 have hG : w.heap.size < w.heap.size + 1 := by omega
 have own1 : Own w1 (w.heap.size + 1) (.slice a1 m1 c1) m1 (ordL row) := by simpa using own1x
 have hS1 : w.heap.size + 1 ≤ w1.heap.size := by have := hb1.size; simpa using this
 have hm1 : m1 ≤ 514 := by rw [own1.1]; exact HOR.out.1
 clear hb1 bx1 own1x A1
 have xfam1 := bxw1.out.fam
 simp only at xfam1
 go_wp2_with (at_builtin; refine wpList_append_new rfl _ _ rfl (w.heap.size + 1) a1 m1 c1 _ rfl own1 [_] 1 rfl [fm] (by first | rfl | (simp [bv]; done) | (simp [bv]; omega)) rfl (by omega) hS1 ?_; intro a2 m2 c2 w2 own2 hb2; refine Hid.out ?_)
 refine Lib.hid ?_
 have hm2 : m2 ≤ 515 := by rw [own2.1, List.length_append, ← own1.1]; simp; omega
 have bxw2 : Hid (EBox w2 w.heap.size _) := bxw1.out.keep hb2 hG
 have B2 := B1.trans (hb2.mono (Nat.le_of_lt hG))
 have hS2 : w.heap.size + 1 ≤ w2.heap.size := Nat.le_trans hS1 hb2.size
 clear bxw1 B1 hS1 hb2 own1 hm1
 clear xfam1
 by_cases hk5 : kd = 5
 ·have HKL : Hid (keyL ⟨vr, (fm : Int), vq, (t : Int), (sq : Int), (kd : Int), vv, row, qual, val⟩ = ((((ordL row ++ [fm]) ++ [0]) ++ be8 (9223372036854775807 - t)) ++ be8 (9223372036854775807 - sq)) ++ [kd]) := by
   unfold Hid keyL mark
   have : (kd : Int) = 5 := by omega
   simp [this]
   omega
  have hkn : ((kd : Int) == 5) = true := by simp; omega
  have xkind2 := bxw2.out.kind
  simp only at xkind2
  go_wp2_with (at_builtin; refine wpList_append_new rfl _ _ rfl (w.heap.size + 1) a2 m2 c2 _ rfl own2 [_] 1 rfl [0] (by first | rfl | (simp [bv]; done) | (simp [bv]; omega)) rfl (by omega) hS2 ?_; intro a3 m3 c3 w3 own3 hb3; refine Hid.out ?_)
  refine Lib.hid ?_
  have hm3 : m3 ≤ 516 := by rw [own3.1, List.length_append, ← own2.1]; simp; omega
  have bxw3 : Hid (EBox w3 w.heap.size _) := bxw2.out.keep hb3 hG
  have B3 := B2.trans (hb3.mono (Nat.le_of_lt hG))
  have hS3 : w.heap.size + 1 ≤ w3.heap.size := Nat.le_trans hS2 hb3.size
  clear bxw2 B2 hS2 hb3 own2 hm2
  clear xkind2
  have xts3 := bxw3.out.ts
  simp only at xts3
  go_wp2_with fail
  refine (refFalling_any t hts _).mono ?_
  rintro e7 w7 ⟨a7, m7, c7, rfl, own7, hb7⟩
  have hm7 : m7 = 8 := own7.1
  subst hm7
  have r7 : Rd w7 (.slice a7 8 c7) _ := own7.rd (be8_bys _) (by omega)
  have own67 := own3.later hb7
  have bxw7 : Hid (EBox w7 w.heap.size _) := bxw3.out.later hb7
  have B7 := B3.trans (hb7.mono B3.size)
  have hS7 : w.heap.size + 1 ≤ w7.heap.size := Nat.le_trans hS3 hb7.size
  clear bxw3 B3 hS3 hb7 own3 own7 xts3
  have xseq7 := bxw7.out.seq
  simp only at xseq7
  go_wp2_with fail
  refine (refFalling_any sq hsq _).mono ?_
  rintro e8 w8 ⟨a8, m8, c8, rfl, own8, hb8⟩
  have hm8 : m8 = 8 := own8.1
  subst hm8
  have r78 := r7.later hb8
  have own68 := own67.later hb8
  have HLT : Hid (∀ g, (Value.slice a3 m3 c3).ownBlock = some g → g < w7.heap.size) := fun g hg => (own67.2.lt g hg).2
  have bxw8 : Hid (EBox w8 w.heap.size _) := bxw7.out.later hb8
  have B8 := B7.trans (hb8.mono B7.size)
  have hS8 : w.heap.size + 1 ≤ w8.heap.size := Nat.le_trans hS7 hb8.size
  have R8 : Hid (Own w8 w7.heap.size (.slice a8 8 c8) 8 (be8 (9223372036854775807 - sq)) ∧ Below w7.heap.size w7 w8) := ⟨own8, hb8⟩
  clear bxw7 B7 hb8 own67 own8 xseq7 r7
  go_wp2_with (at_builtin; refine wpList_append_gr rfl _ _ rfl (w.heap.size + 1) a3 m3 c3 _ rfl own68 a7 8 c7 _ rfl r78 (by omega) hS8 ?_; intro a9 m9 c9 w9 own9 hb9 gr9; refine Hid.out ?_)
  refine Lib.hid ?_
  have hm9 : m9 ≤ 524 := by rw [own9.1, List.length_append, ← own68.1]; simp [be8]; omega
  have r9 : Rd w9 (.slice a8 8 c8) _ := (R8.out.1.grown gr9 HLT.out).rd (be8_bys _) (by omega)
  have bxw9 : Hid (EBox w9 w.heap.size _) := bxw8.out.keep hb9 hG
  have B9 := B8.trans (hb9.mono (Nat.le_of_lt hG))
  have hS9 : w.heap.size + 1 ≤ w9.heap.size := Nat.le_trans hS8 hb9.size
  clear bxw8 B8 hS8 hb9 own68 r78 R8 HLT gr9 hS7 hm3
  go_wp2_with (at_builtin; refine wpList_append_at rfl _ _ rfl (w.heap.size + 1) a9 m9 c9 _ rfl own9 a8 8 c8 _ rfl r9 (by omega) hS9 ?_; intro a10 m10 c10 w10 own10 hb10; refine Hid.out ?_)
  refine Lib.hid ?_
  have hm10 : m10 ≤ 532 := by rw [own10.1, List.length_append, ← own9.1]; simp [be8]; omega
  have bxw10 : Hid (EBox w10 w.heap.size _) := bxw9.out.keep hb10 hG
  have B10 := B9.trans (hb10.mono (Nat.le_of_lt hG))
  have hS10 : w.heap.size + 1 ≤ w10.heap.size := Nat.le_trans hS9 hb10.size
  clear bxw9 B9 hS9 hb10 own9 r9 hm9
  have xkind10 := bxw10.out.kind
  simp only at xkind10
  go_wp2_with (at_builtin; refine wpList_append_new rfl _ _ rfl (w.heap.size + 1) a10 m10 c10 _ rfl own10 [_] 1 rfl [kd] (by first | rfl | (simp [bv]; done) | (simp [bv]; omega)) rfl (by omega) hS10 ?_; intro a11 m11 c11 w11 own11 hb11)
  go_ret
  refine ⟨a11, m11, c11, rfl, ?_, B10.trans (hb11.mono (Nat.le_of_lt hG))⟩
  rw [HKL.out]
  exact own11.mono (Nat.le_of_lt hG)
 by_cases hk4c : kd = 4
 ·have HKL : Hid (keyL ⟨vr, (fm : Int), vq, (t : Int), (sq : Int), (kd : Int), vv, row, qual, val⟩ = ((((((ordL row ++ [fm]) ++ [1]) ++ ordL qual) ++ [0]) ++ be8 (9223372036854775807 - t)) ++ be8 (9223372036854775807 - sq)) ++ [kd]) := by
   unfold Hid keyL mark
   have h4 : (kd : Int) = 4 := by omega
   simp [h4]
   omega
  have hkn : ((kd : Int) == 5) = false := by simp; omega
  have hk4 : ((kd : Int) == 4) = true := by simp; omega
  have xkind2 := bxw2.out.kind
  simp only at xkind2
  go_wp2_with (at_builtin; refine wpList_append_new rfl _ _ rfl (w.heap.size + 1) a2 m2 c2 _ rfl own2 [_] 1 rfl [1] (by first | rfl | (simp [bv]; done) | (simp [bv]; omega)) rfl (by omega) hS2 ?_; intro a3 m3 c3 w3 own3 hb3; refine Hid.out ?_)
  refine Lib.hid ?_
  have hm3 : m3 ≤ 516 := by rw [own3.1, List.length_append, ← own2.1]; simp; omega
  have bxw3 : Hid (EBox w3 w.heap.size _) := bxw2.out.keep hb3 hG
  have B3 := B2.trans (hb3.mono (Nat.le_of_lt hG))
  have hS3 : w.heap.size + 1 ≤ w3.heap.size := Nat.le_trans hS2 hb3.size
  clear bxw2 B2 hS2 hb3 own2 hm2
  clear xkind2
  have xvq3 := bxw3.out.vq
  simp only at xvq3
  go_wp2_with fail
  refine (refOrdered_any (HRQ.out.later B3) (by have := HOQ.out.1; omega)).mono ?_
  rintro e4 w4 ⟨a4, m4, c4, rfl, own4, hb4⟩
  have hm4 : m4 ≤ 514 := by rw [own4.1]; exact HOQ.out.1
  have r4 : Rd w4 (.slice a4 m4 c4) _ := own4.rd HOQ.out.2 (by omega)
  have own34 := own3.later hb4
  have bxw4 : Hid (EBox w4 w.heap.size _) := bxw3.out.later hb4
  have B4 := B3.trans (hb4.mono B3.size)
  have hS4 : w.heap.size + 1 ≤ w4.heap.size := Nat.le_trans hS3 hb4.size
  have HL4 : Hid (m4 = (ordL qual).length) := own4.1
  clear bxw3 B3 hS3 hb4 own3 own4 xvq3
  go_wp2_with (at_builtin; refine wpList_append_at rfl _ _ rfl (w.heap.size + 1) a3 m3 c3 _ rfl own34 a4 m4 c4 _ rfl r4 (by omega) hS4 ?_; intro a5 m5 c5 w5 own5 hb5; refine Hid.out ?_)
  refine Lib.hid ?_
  have hm5 : m5 ≤ 1030 := by rw [own5.1, List.length_append, ← own34.1, ← HL4.out]; omega
  have bxw5 : Hid (EBox w5 w.heap.size _) := bxw4.out.keep hb5 hG
  have B5 := B4.trans (hb5.mono (Nat.le_of_lt hG))
  have hS5 : w.heap.size + 1 ≤ w5.heap.size := Nat.le_trans hS4 hb5.size
  clear bxw4 B4 hS4 hb5 own34 r4 hm3 hm4 HL4
  have xkind5 := bxw5.out.kind
  simp only at xkind5
  go_wp2_with (at_builtin; refine wpList_append_new rfl _ _ rfl (w.heap.size + 1) a5 m5 c5 _ rfl own5 [_] 1 rfl [0] (by first | rfl | (simp [bv]; done) | (simp [bv]; omega)) rfl (by omega) hS5 ?_; intro a6 m6 c6 w6 own6 hb6; refine Hid.out ?_)
  refine Lib.hid ?_
  have hm6 : m6 ≤ 1031 := by rw [own6.1, List.length_append, ← own5.1]; simp; omega
  have bxw6 : Hid (EBox w6 w.heap.size _) := bxw5.out.keep hb6 hG
  have B6 := B5.trans (hb6.mono (Nat.le_of_lt hG))
  have hS6 : w.heap.size + 1 ≤ w6.heap.size := Nat.le_trans hS5 hb6.size
  clear bxw5 B5 hS5 hb6 own5 hm5
  clear xkind5
  have xts6 := bxw6.out.ts
  simp only at xts6
  go_wp2_with fail
  refine (refFalling_any t hts _).mono ?_
  rintro e7 w7 ⟨a7, m7, c7, rfl, own7, hb7⟩
  have hm7 : m7 = 8 := own7.1
  subst hm7
  have r7 : Rd w7 (.slice a7 8 c7) _ := own7.rd (be8_bys _) (by omega)
  have own67 := own6.later hb7
  have bxw7 : Hid (EBox w7 w.heap.size _) := bxw6.out.later hb7
  have B7 := B6.trans (hb7.mono B6.size)
  have hS7 : w.heap.size + 1 ≤ w7.heap.size := Nat.le_trans hS6 hb7.size
  clear bxw6 B6 hS6 hb7 own6 own7 xts6
  have xseq7 := bxw7.out.seq
  simp only at xseq7
  go_wp2_with fail
  refine (refFalling_any sq hsq _).mono ?_
  rintro e8 w8 ⟨a8, m8, c8, rfl, own8, hb8⟩
  have hm8 : m8 = 8 := own8.1
  subst hm8
  have r78 := r7.later hb8
  have own68 := own67.later hb8
  have HLT : Hid (∀ g, (Value.slice a6 m6 c6).ownBlock = some g → g < w7.heap.size) := fun g hg => (own67.2.lt g hg).2
  have bxw8 : Hid (EBox w8 w.heap.size _) := bxw7.out.later hb8
  have B8 := B7.trans (hb8.mono B7.size)
  have hS8 : w.heap.size + 1 ≤ w8.heap.size := Nat.le_trans hS7 hb8.size
  have R8 : Hid (Own w8 w7.heap.size (.slice a8 8 c8) 8 (be8 (9223372036854775807 - sq)) ∧ Below w7.heap.size w7 w8) := ⟨own8, hb8⟩
  clear bxw7 B7 hb8 own67 own8 xseq7 r7
  go_wp2_with (at_builtin; refine wpList_append_gr rfl _ _ rfl (w.heap.size + 1) a6 m6 c6 _ rfl own68 a7 8 c7 _ rfl r78 (by omega) hS8 ?_; intro a9 m9 c9 w9 own9 hb9 gr9; refine Hid.out ?_)
  refine Lib.hid ?_
  have hm9 : m9 ≤ 1039 := by rw [own9.1, List.length_append, ← own68.1]; simp [be8]; omega
  have r9 : Rd w9 (.slice a8 8 c8) _ := (R8.out.1.grown gr9 HLT.out).rd (be8_bys _) (by omega)
  have bxw9 : Hid (EBox w9 w.heap.size _) := bxw8.out.keep hb9 hG
  have B9 := B8.trans (hb9.mono (Nat.le_of_lt hG))
  have hS9 : w.heap.size + 1 ≤ w9.heap.size := Nat.le_trans hS8 hb9.size
  clear bxw8 B8 hS8 hb9 own68 r78 R8 HLT gr9 hS7 hm6
  go_wp2_with (at_builtin; refine wpList_append_at rfl _ _ rfl (w.heap.size + 1) a9 m9 c9 _ rfl own9 a8 8 c8 _ rfl r9 (by omega) hS9 ?_; intro a10 m10 c10 w10 own10 hb10; refine Hid.out ?_)
  refine Lib.hid ?_
  have hm10 : m10 ≤ 1047 := by rw [own10.1, List.length_append, ← own9.1]; simp [be8]; omega
  have bxw10 : Hid (EBox w10 w.heap.size _) := bxw9.out.keep hb10 hG
  have B10 := B9.trans (hb10.mono (Nat.le_of_lt hG))
  have hS10 : w.heap.size + 1 ≤ w10.heap.size := Nat.le_trans hS9 hb10.size
  clear bxw9 B9 hS9 hb10 own9 r9 hm9
  have xkind10 := bxw10.out.kind
  simp only at xkind10
  go_wp2_with (at_builtin; refine wpList_append_new rfl _ _ rfl (w.heap.size + 1) a10 m10 c10 _ rfl own10 [_] 1 rfl [kd] (by first | rfl | (simp [bv]; done) | (simp [bv]; omega)) rfl (by omega) hS10 ?_; intro a11 m11 c11 w11 own11 hb11)
  go_ret
  refine ⟨a11, m11, c11, rfl, ?_, B10.trans (hb11.mono (Nat.le_of_lt hG))⟩
  rw [HKL.out]
  exact own11.mono (Nat.le_of_lt hG)
 ·have HKL : Hid (keyL ⟨vr, (fm : Int), vq, (t : Int), (sq : Int), (kd : Int), vv, row, qual, val⟩ = ((((((ordL row ++ [fm]) ++ [1]) ++ ordL qual) ++ [1]) ++ be8 (9223372036854775807 - t)) ++ be8 (9223372036854775807 - sq)) ++ [kd]) := by
   unfold Hid keyL mark
   have h4 : ¬ ((kd : Int) = 4) := by omega
   have h5 : ¬ ((kd : Int) = 5) := by omega
   simp [h4, h5]
  have hkn : ((kd : Int) == 5) = false := by simp; omega
  have hk4 : ((kd : Int) == 4) = false := by simp; omega
  have xkind2 := bxw2.out.kind
  simp only at xkind2
  go_wp2_with (at_builtin; refine wpList_append_new rfl _ _ rfl (w.heap.size + 1) a2 m2 c2 _ rfl own2 [_] 1 rfl [1] (by first | rfl | (simp [bv]; done) | (simp [bv]; omega)) rfl (by omega) hS2 ?_; intro a3 m3 c3 w3 own3 hb3; refine Hid.out ?_)
  refine Lib.hid ?_
  have hm3 : m3 ≤ 516 := by rw [own3.1, List.length_append, ← own2.1]; simp; omega
  have bxw3 : Hid (EBox w3 w.heap.size _) := bxw2.out.keep hb3 hG
  have B3 := B2.trans (hb3.mono (Nat.le_of_lt hG))
  have hS3 : w.heap.size + 1 ≤ w3.heap.size := Nat.le_trans hS2 hb3.size
  clear bxw2 B2 hS2 hb3 own2 hm2
  clear xkind2
  have xvq3 := bxw3.out.vq
  simp only at xvq3
  go_wp2_with fail
  refine (refOrdered_any (HRQ.out.later B3) (by have := HOQ.out.1; omega)).mono ?_
  rintro e4 w4 ⟨a4, m4, c4, rfl, own4, hb4⟩
  have hm4 : m4 ≤ 514 := by rw [own4.1]; exact HOQ.out.1
  have r4 : Rd w4 (.slice a4 m4 c4) _ := own4.rd HOQ.out.2 (by omega)
  have own34 := own3.later hb4
  have bxw4 : Hid (EBox w4 w.heap.size _) := bxw3.out.later hb4
  have B4 := B3.trans (hb4.mono B3.size)
  have hS4 : w.heap.size + 1 ≤ w4.heap.size := Nat.le_trans hS3 hb4.size
  have HL4 : Hid (m4 = (ordL qual).length) := own4.1
  clear bxw3 B3 hS3 hb4 own3 own4 xvq3
  go_wp2_with (at_builtin; refine wpList_append_at rfl _ _ rfl (w.heap.size + 1) a3 m3 c3 _ rfl own34 a4 m4 c4 _ rfl r4 (by omega) hS4 ?_; intro a5 m5 c5 w5 own5 hb5; refine Hid.out ?_)
  refine Lib.hid ?_
  have hm5 : m5 ≤ 1030 := by rw [own5.1, List.length_append, ← own34.1, ← HL4.out]; omega
  have bxw5 : Hid (EBox w5 w.heap.size _) := bxw4.out.keep hb5 hG
  have B5 := B4.trans (hb5.mono (Nat.le_of_lt hG))
  have hS5 : w.heap.size + 1 ≤ w5.heap.size := Nat.le_trans hS4 hb5.size
  clear bxw4 B4 hS4 hb5 own34 r4 hm3 hm4 HL4
  have xkind5 := bxw5.out.kind
  simp only at xkind5
  go_wp2_with (at_builtin; refine wpList_append_new rfl _ _ rfl (w.heap.size + 1) a5 m5 c5 _ rfl own5 [_] 1 rfl [1] (by first | rfl | (simp [bv]; done) | (simp [bv]; omega)) rfl (by omega) hS5 ?_; intro a6 m6 c6 w6 own6 hb6; refine Hid.out ?_)
  refine Lib.hid ?_
  have hm6 : m6 ≤ 1031 := by rw [own6.1, List.length_append, ← own5.1]; simp; omega
  have bxw6 : Hid (EBox w6 w.heap.size _) := bxw5.out.keep hb6 hG
  have B6 := B5.trans (hb6.mono (Nat.le_of_lt hG))
  have hS6 : w.heap.size + 1 ≤ w6.heap.size := Nat.le_trans hS5 hb6.size
  clear bxw5 B5 hS5 hb6 own5 hm5
  clear xkind5
  have xts6 := bxw6.out.ts
  simp only at xts6
  go_wp2_with fail
  refine (refFalling_any t hts _).mono ?_
  rintro e7 w7 ⟨a7, m7, c7, rfl, own7, hb7⟩
  have hm7 : m7 = 8 := own7.1
  subst hm7
  have r7 : Rd w7 (.slice a7 8 c7) _ := own7.rd (be8_bys _) (by omega)
  have own67 := own6.later hb7
  have bxw7 : Hid (EBox w7 w.heap.size _) := bxw6.out.later hb7
  have B7 := B6.trans (hb7.mono B6.size)
  have hS7 : w.heap.size + 1 ≤ w7.heap.size := Nat.le_trans hS6 hb7.size
  clear bxw6 B6 hS6 hb7 own6 own7 xts6
  have xseq7 := bxw7.out.seq
  simp only at xseq7
  go_wp2_with fail
  refine (refFalling_any sq hsq _).mono ?_
  rintro e8 w8 ⟨a8, m8, c8, rfl, own8, hb8⟩
  have hm8 : m8 = 8 := own8.1
  subst hm8
  have r78 := r7.later hb8
  have own68 := own67.later hb8
  have HLT : Hid (∀ g, (Value.slice a6 m6 c6).ownBlock = some g → g < w7.heap.size) := fun g hg => (own67.2.lt g hg).2
  have bxw8 : Hid (EBox w8 w.heap.size _) := bxw7.out.later hb8
  have B8 := B7.trans (hb8.mono B7.size)
  have hS8 : w.heap.size + 1 ≤ w8.heap.size := Nat.le_trans hS7 hb8.size
  have R8 : Hid (Own w8 w7.heap.size (.slice a8 8 c8) 8 (be8 (9223372036854775807 - sq)) ∧ Below w7.heap.size w7 w8) := ⟨own8, hb8⟩
  clear bxw7 B7 hb8 own67 own8 xseq7 r7
  go_wp2_with (at_builtin; refine wpList_append_gr rfl _ _ rfl (w.heap.size + 1) a6 m6 c6 _ rfl own68 a7 8 c7 _ rfl r78 (by omega) hS8 ?_; intro a9 m9 c9 w9 own9 hb9 gr9; refine Hid.out ?_)
  refine Lib.hid ?_
  have hm9 : m9 ≤ 1039 := by rw [own9.1, List.length_append, ← own68.1]; simp [be8]; omega
  have r9 : Rd w9 (.slice a8 8 c8) _ := (R8.out.1.grown gr9 HLT.out).rd (be8_bys _) (by omega)
  have bxw9 : Hid (EBox w9 w.heap.size _) := bxw8.out.keep hb9 hG
  have B9 := B8.trans (hb9.mono (Nat.le_of_lt hG))
  have hS9 : w.heap.size + 1 ≤ w9.heap.size := Nat.le_trans hS8 hb9.size
  clear bxw8 B8 hS8 hb9 own68 r78 R8 HLT gr9 hS7 hm6
  go_wp2_with (at_builtin; refine wpList_append_at rfl _ _ rfl (w.heap.size + 1) a9 m9 c9 _ rfl own9 a8 8 c8 _ rfl r9 (by omega) hS9 ?_; intro a10 m10 c10 w10 own10 hb10; refine Hid.out ?_)
  refine Lib.hid ?_
  have hm10 : m10 ≤ 1047 := by rw [own10.1, List.length_append, ← own9.1]; simp [be8]; omega
  have bxw10 : Hid (EBox w10 w.heap.size _) := bxw9.out.keep hb10 hG
  have B10 := B9.trans (hb10.mono (Nat.le_of_lt hG))
  have hS10 : w.heap.size + 1 ≤ w10.heap.size := Nat.le_trans hS9 hb10.size
  clear bxw9 B9 hS9 hb10 own9 r9 hm9
  have xkind10 := bxw10.out.kind
  simp only at xkind10
  go_wp2_with (at_builtin; refine wpList_append_new rfl _ _ rfl (w.heap.size + 1) a10 m10 c10 _ rfl own10 [_] 1 rfl [kd] (by first | rfl | (simp [bv]; done) | (simp [bv]; omega)) rfl (by omega) hS10 ?_; intro a11 m11 c11 w11 own11 hb11)
  go_ret
  refine ⟨a11, m11, c11, rfl, ?_, B10.trans (hb11.mono (Nat.le_of_lt hG))⟩
  rw [HKL.out]
  exact own11.mono (Nat.le_of_lt hG)

set_option maxRecDepth 100000 in
set_option maxHeartbeats 4000000 in
theorem refPack_ok {e : EntD} {w : World} (hok : EntD.Ok w e) (hc : checkS e = 0) :
  Calls Tryz.prog 36 #[.agg e.cells] w fun r w' => ∃ a m c, r = .returned (.tuple #[.slice a m c, .int .i64 0]) ∧ Own w' w.heap.size (.slice a m c) m (packL e) ∧ Below w.heap.size w w' := by
 have hvl : e.val.length ≤ 4096 := (check_facts hc).2.2.2.2.2.2.2.1
 have A1 := (Below.refl w.heap.size w).alloc (Nat.le_refl _) (.cells e.cells 38)
 have bx1 : Hid (EBox (w.alloc (.cells e.cells 38)) w.heap.size e) := EBox.new w e
 have c1 := refCheck_any (hok.later A1)
 rw [hc] at c1
 have HC1 : Hid (Calls _ _ _ _ _) := c1
 have HC2 : Hid (∀ w', EntD.Ok w' e → Calls Tryz.prog 53 #[.agg e.cells] w' fun r w'' => ∃ a m c, r = .returned (.slice a m c) ∧ Own w'' w'.heap.size (.slice a m c) m (keyL e) ∧ Below w'.heap.size w' w'') := fun w' h => refkey_any h hc
 have HKL : Hid (Bys (keyL e) ∧ (keyL e).length ≤ 2000) := ⟨keyL_bys hok.1.1 hok.2.1.1 hc, keyL_len hc⟩
 have HV : Hid (Rd w e.vv e.val ∧ e.val.length ≤ 4096) := ⟨hok.2.2, hvl⟩
 have HK : Hid (EntD.Ok w e) := hok
 obtain ⟨av, mv, cv, ev⟩ := rd_slice hok.2.2
 have HEV : Hid (e.vv = .slice av mv cv) := ev
 clear c1 hc hok hvl ev
 simp only [EntD.cells] at *
 go_enter Tryz.func36, Tryz.ntmps36
 go_wp2_with fail
 refine HC1.out.mono ?_
 rintro e1 w1 ⟨rfl, hb1⟩
 have B1 := A1.trans (hb1.mono A1.size)
 have bx2 : Hid (EBox w1 w.heap.size e) := bx1.out.later hb1
 have x0 := bx2.out.vr
 have x1 := bx2.out.fam
 have x2 := bx2.out.vq
 have x3 := bx2.out.ts
 have x4 := bx2.out.seq
 have x5 := bx2.out.kind
 have x6 := bx2.out.vv
 clear bx1 hb1 A1 HC1
 go_wp2_with fail
 refine (HC2.out _ (HK.out.later B1)).mono ?_
 rintro e2 w2 ⟨a2, m2, c2, rfl, own2, hb2⟩
 have B2 := B1.trans (hb2.mono B1.size)
 have bx3 : Hid (EBox w2 w.heap.size e) := bx2.out.later hb2
 have R2 := own2.rd HKL.out.1 (by rw [own2.1]; have := HKL.out.2; omega)
 have hw1 : w.heap.size ≤ w1.heap.size := B1.size
 clear own2 hb2 bx2 x0 x1 x2 x3 x4 x5 x6 B1
 go_wp2_with fail
 refine (refBytes_any R2 (by have := HKL.out.2; omega)).mono ?_
 rintro e3 w3 ⟨a3, m3, c3, rfl, own3, hb3⟩
 have B3 := B2.trans (hb3.mono B2.size)
 have x6 : w3.cell? ⟨w.heap.size, 6, none⟩ = some (.slice av mv cv) := by rw [(bx3.out.later hb3).vv, HEV.out]
 have RV := HV.out.1.later B3
 rw [HEV.out] at RV
 have hw2 : w.heap.size ≤ w2.heap.size := B2.size
 have hm3 : m3 ≤ 2010 := by rw [own3.1]; have := bytesL_le (keyL e); have := HKL.out.2; omega
 have hs3 : w2.heap.size ≤ w3.heap.size := hb3.size
 clear bx3 R2 B2 hb3
 go_wp2_with fail
 refine (refBytes_any RV (by have := HV.out.2; omega)).mono ?_
 rintro e4 w4 ⟨a4, m4, c4, rfl, own4, hb4⟩
 have B4 := B3.trans (hb4.mono B3.size)
 have own34 := own3.later hb4
 have r4 := own4.rd (bytesL_bys HV.out.1.1 (by have := HV.out.2; omega)) (by rw [own4.1]; have := bytesL_le e.val; have := HV.out.2; omega)
 have hm4 : m4 ≤ 4106 := by rw [own4.1]; have := bytesL_le e.val; have := HV.out.2; omega
 have hS : w2.heap.size ≤ w4.heap.size := Nat.le_trans hs3 hb4.size
 clear own3 own4 hb4 x6 RV B3
 go_wp2_with (at_builtin; refine wpList_append_at rfl _ _ rfl w2.heap.size a3 m3 c3 _ rfl own34 a4 m4 c4 _ rfl r4 (by omega) hS ?_; intro a5 m5 c5 w5 own5 hb5)
 go_ret2
 exact ⟨a5, m5, c5, rfl, own5.mono hw2, B4.trans (hb5.mono hw2)⟩

end Go.Proofs.YtpabbnddeklpdaaGreat

namespace Go.Proofs.YtpabbnddeklpdaaGreat
open Go.RowKit
set_option linter.unusedVariables false

theorem EBox.fz7 {w : World} {g : Nat} {e : EntD} (h : EBox w g e) : w.frozen? ⟨g, 0, none⟩ = false ∧ w.frozen? ⟨g, 1, none⟩ = false ∧ w.frozen? ⟨g, 2, none⟩ = false ∧ w.frozen? ⟨g, 3, none⟩ = false ∧ w.frozen? ⟨g, 4, none⟩ = false ∧ w.frozen? ⟨g, 5, none⟩ = false ∧ w.frozen? ⟨g, 6, none⟩ = false := ⟨h.fz 0, h.fz 1, h.fz 2, h.fz 3, h.fz 4, h.fz 5, h.fz 6⟩
def UnpackedAs (w w' : World) (r : Ending) (K V : List Nat) (E1 P2 E2 : Nat) : Prop :=
 Below w.heap.size w w' ∧
 ((∃ D : EntD, E1 = 0 ∧ E2 = 0 ∧ checkS D = 0 ∧ D.val = V ∧ keyL D = K ∧ Bys D.row ∧ Bys D.qual ∧ r = .returned (.tuple #[.agg D.cells, .int .i64 (P2 : Int), .int .i64 0]) ∧ EntD.Ok w' D) ∨
  (∃ E : Nat, E ≠ 0 ∧ r = .returned (.tuple #[.agg #[.slice none 0 0, .int .i64 0, .slice none 0 0, .int .i64 0, .int .i64 0, .int .i64 0, .slice none 0 0], .int .i64 0, .int .i64 (E : Int)]) ∧ ¬ (E1 = 0 ∧ E2 = 0 ∧ ∃ D : EntD, checkS D = 0 ∧ D.val = V ∧ keyL D = K)))

end Go.Proofs.YtpabbnddeklpdaaGreat

namespace Go.Proofs.YtpabbnddeklpdaaGreat
open Go.RowKit
set_option linter.unusedVariables false

end Go.Proofs.YtpabbnddeklpdaaGreat

namespace Go.Proofs.YtpabbnddeklpdaaGreat
open Go.RowKit
set_option linter.unusedVariables false

def LaidE (w : World) (B : Nat) (D : EntD) : Prop := Laid w B D.vr D.row ∧ Laid w B D.vq D.qual ∧ Laid w B D.vv D.val
theorem LaidE.later {w w' : World} {B : Nat} {D : EntD} (h : LaidE w B D) (hb : Below w.heap.size w w') : LaidE w' B D := ⟨h.1.later hb, h.2.1.later hb, h.2.2.later hb⟩
theorem Laid.mono {w : World} {B B' : Nat} {u : Value} {bs : List Nat} (h : Laid w B u bs) (hB : B' ≤ B) : Laid w B' u bs := by
 obtain ⟨g, c, h1, h2, h3, h4⟩ := h
 exact ⟨g, c, h1, h2, h3, h4.mono hB⟩
theorem LaidE.mono {w : World} {B B' : Nat} {D : EntD} (h : LaidE w B D) (hB : B' ≤ B) : LaidE w B' D := ⟨h.1.mono hB, h.2.1.mono hB, h.2.2.mono hB⟩
def EntD.cut (e : EntD) : EntD := { e with row := e.row.take 5000, qual := e.qual.take 5000, val := e.val.take 5000 }
def EntD.Fine (e : EntD) : Prop := (Bys e.row ∧ e.row.length ≤ 5000) ∧ (Bys e.qual ∧ e.qual.length ≤ 5000) ∧ (Bys e.val ∧ e.val.length ≤ 5000)
theorem EntD.cut_fine {w : World} {e : EntD} (h : EntD.Ok w e) : EntD.Fine e.cut :=
 ⟨⟨fun x hx => h.1.1 x (List.mem_of_mem_take hx), by simp [EntD.cut]; omega⟩, ⟨fun x hx => h.2.1.1 x (List.mem_of_mem_take hx), by simp [EntD.cut]; omega⟩, ⟨fun x hx => h.2.2.1 x (List.mem_of_mem_take hx), by simp [EntD.cut]; omega⟩⟩
theorem EntD.Fine.same {a b : EntD} (h : EntD.Fine b) (s : EntD.Same a b) : EntD.Fine a := by
 unfold EntD.Fine at *
 rw [s.2.2.2.2.1, s.2.2.2.2.2.1, s.2.2.2.2.2.2]; exact h
theorem LaidE.ok {w : World} {B : Nat} {D : EntD} (h : LaidE w B D) (k : EntD.Fine D) : EntD.Ok w D := ⟨h.1.rd k.1.1 (by have := k.1.2; omega), h.2.1.rd k.2.1.1 (by have := k.2.1.2; omega), h.2.2.rd k.2.2.1 (by have := k.2.2.2; omega)⟩
theorem keyL_same {a b : EntD} (s : EntD.Same a b) : keyL a = keyL b := by
 obtain ⟨h1, h2, h3, h4, h5, h6, h7⟩ := s
 unfold keyL; rw [h1, h2, h3, h4, h5, h6]
theorem packL_same {a b : EntD} (s : EntD.Same a b) : packL a = packL b := by
 unfold packL; rw [keyL_same s, s.2.2.2.2.2.2]

open Classical in
noncomputable def keyA (e : EntD) : List Nat := if checkS e = 0 then keyL e else []
open Classical in
noncomputable def packA (e : EntD) : List Nat := if checkS e = 0 then packL e else []
theorem Laid.put {w : World} {B g i : Nat} {u x : Value} {bs : List Nat} (h : Laid w B u bs) (hg : g < B) : Laid (w.setCell ⟨g, i, none⟩ x) B u bs := by
 obtain ⟨g2, c, h1, h2, h3, h4⟩ := h
 refine ⟨g2, c, h1, h2, h3, h4.1, h4.2.1, ?_⟩
 rcases h4.2.2 with h5 | ⟨g3, cap, cur, h5, h6, h7, h8⟩
 ·exact .inl h5
 ·refine .inr ⟨g3, cap, cur, h5, h6, ?_, h8⟩
  rw [Below.heap_setCell w ⟨g, i, none⟩ x g3 (by simp; omega)]
  exact h7
theorem Laid.form {w : World} {B : Nat} {u : Value} {bs : List Nat} (h : Laid w B u bs) : ∃ a n c, u = .slice a n c := by
 obtain ⟨g, c, h1, _⟩ := h
 exact ⟨_, _, _, h1⟩
theorem Laid.fill {w : World} {B g : Nat} {u : Value} {bs : List Nat} {D : EntD} (h : Laid w B u bs) (hg : g < B) : Laid (filled w g D) B u bs :=
 (((((((h.put hg).put hg).put hg).put hg).put hg).put hg).put hg)

end Go.Proofs.YtpabbnddeklpdaaGreat

namespace Go.Proofs.YtpabbnddeklpdaaGreat
open Go.RowKit Go.Shelf
set_option linter.unusedVariables false

def pk : List EntD → Nat
 | [] => 0
 | e :: es => (packL e).length + pk es
theorem pk_app : ∀ (a b : List EntD), pk (a ++ b) = pk a + pk b
 | [], b => by simp [pk]
 | x :: a, b => by simp only [List.cons_append, pk, pk_app a b]; omega
theorem pk_sm : ∀ {a b : List EntD}, Sm a b → pk a = pk b
 | [], [], _ => rfl
 | x :: a, y :: b, h => by simp only [pk, packL_same h.1, pk_sm h.2]
 | [], _ :: _, h => h.elim
 | _ :: _, [], h => h.elim
theorem pk_take {xs : List EntD} {i : Nat} {x : EntD} (h : xs[i]? = some x) : pk (xs.take (i + 1)) = pk (xs.take i) + (packL x).length := by
 rw [List.take_add_one, h, pk_app]
 simp [pk]
theorem Sm.symm : ∀ {xs ys : List EntD}, Sm xs ys → Sm ys xs
 | [], [], _ => trivial
 | _ :: _, _ :: _, h => ⟨h.1.symm, Sm.symm h.2⟩
 | [], _ :: _, h => h.elim
 | _ :: _, [], h => h.elim
theorem Sm.trans : ∀ {xs ys zs : List EntD}, Sm xs ys → Sm ys zs → Sm xs zs
 | [], [], [], _, _ => trivial
 | _ :: _, _ :: _, _ :: _, h, k => ⟨h.1.trans k.1, Sm.trans h.2 k.2⟩
 | [], _ :: _, _, h, _ => h.elim
 | _ :: _, [], _, h, _ => h.elim
 | [], [], _ :: _, _, k => k.elim
 | _ :: _, _ :: _, [], _, k => k.elim
theorem Sm.app : ∀ {A B P Q : List EntD}, Sm A P → Sm B Q → Sm (A ++ B) (P ++ Q)
 | [], _, [], _, _, k => k
 | _ :: _, _, _ :: _, _, h, k => ⟨h.1, Sm.app h.2 k⟩
 | [], _, _ :: _, _, h, _ => h.elim
 | _ :: _, _, [], _, h, _ => h.elim
def Hold (L es : List EntD) : Prop := ∃ P, P.Perm es ∧ Sm L P
def Apt (es : List EntD) : Prop := es.Pairwise fun a b => compareS a b ≠ 0
def oth (r : Nat) (es : List EntD) : List EntD := (es.take r).reverse ++ (es.drop r).reverse
end Go.Proofs.YtpabbnddeklpdaaGreat

namespace Go.Proofs.YtpabbnddeklpdaaGreat
open Go.RowKit
set_option linter.unusedVariables false

set_option maxRecDepth 100000 in
theorem refFirst_any (a b : Bool) (w : World) : Calls Tryz.prog 50 #[.bool a, .bool b] w fun e w' => e = .returned (.int .i64 (cmpI (if a then 0 else 1) (if b then 0 else 1))) ∧ w' = w := by
 cases a <;> cases b <;>
 ·go_enter Tryz.func50, Tryz.ntmps50
  go_wp2
  go_ret
  exact ⟨rfl, rfl⟩

theorem refFirst_ahead {a b : EntD} (k : Int) {p q : Bool} (hp : p = true ↔ a.kind = k) (hq : q = true ↔ b.kind = k) (w : World) : Calls Tryz.prog 50 #[.bool p, .bool q] w fun e w' => e = .returned (.int .i64 (aheadS a b k)) ∧ w' = w := by
 have h := refFirst_any p q w
 have e : cmpI (if p = true then 0 else 1) (if q = true then 0 else 1) = aheadS a b k := by
  unfold aheadS mark
  by_cases h1 : a.kind = k <;> by_cases h2 : b.kind = k <;> simp [h1, h2, hp, hq]
 rw [e] at h
 exact h

end Go.Proofs.YtpabbnddeklpdaaGreat
