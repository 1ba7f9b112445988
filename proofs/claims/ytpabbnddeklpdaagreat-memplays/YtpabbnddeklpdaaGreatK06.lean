import Derived.Test.YtpabbnddeklpdaaGreatK05
namespace Go.Proofs.YtpabbnddeklpdaaGreat
open Go.RowKit
set_option linter.unusedVariables false

theorem balS_even {l r : BT} {e : EntD} (h1 : ¬ r.ht + 1 < l.ht) (h2 : ¬ l.ht + 1 < r.ht) : balS l e r = .node l e r := by unfold balS; rw [if_neg h1, if_neg h2]

set_option maxRecDepth 100000 in
set_option maxHeartbeats 8000000 in
theorem balance_even {G : Nat → Prop} {w : World} {p q : Option Addr} {e : EntD} {l r : BT} (hl : IsT G w p l) (hr : IsT G w q r) (he : EOk G w e) (hs : l.ht < 549755813888 ∧ r.ht < 549755813888) (hG : ∀ i, w.heap.size ≤ i → G i)
  (h1 : ¬ r.ht + 1 < l.ht) (h2 : ¬ l.ht + 1 < r.ht) :
  Calls Tryz.prog 82 #[.pointer p, .agg e.cells, .pointer q] w fun x w' => ∃ b, x = .returned (.pointer (some ⟨b, 0, none⟩)) ∧ IsT G w' (some ⟨b, 0, none⟩) (.node l e r) ∧ Below w.heap.size w w' := by
 have A1 := (Below.refl w.heap.size w).alloc (Nat.le_refl _) (.cells e.cells 38)
 have bx := EBox.new w e
 obtain ⟨W, hW⟩ : ∃ W, W = w.alloc (.cells e.cells 38) := ⟨_, rfl⟩
 rw [← hW] at A1 bx
 have HW : Hid (W = w.alloc (.cells #[e.vr, .int .i64 e.fam, e.vq, .int .i64 e.ts, .int .i64 e.seq, .int .i64 e.kind, e.vv] 38)) := hW
 clear hW
 have hl1 := hl.kept (KpG.of A1)
 have hr1 := hr.kept (KpG.of A1)
 have he1 := he.kept (KpG.of A1)
 have hG1 : ∀ i, W.heap.size ≤ i → G i := fun i hi => hG i (Nat.le_trans A1.size hi)
 clear hl hr he hG
 have H1 : Hid (Calls Tryz.prog 90 #[.pointer p] W fun e w' => e = .returned (.int .i64 (l.ht : Int)) ∧ w' = W) := height_any hl1
 have H2 : Hid (Calls Tryz.prog 90 #[.pointer q] W fun e w' => e = .returned (.int .i64 (r.ht : Int)) ∧ w' = W) := height_any hr1
 have HJ : Hid (Calls Tryz.prog 81 #[.pointer p, .agg e.cells, .pointer q] W _) := join_tree hl1 hr1 he1 (by omega) hG1
 obtain ⟨c0, c1, c2, c3, c4, c5, c6⟩ := (⟨bx.vr, bx.fam, bx.vq, bx.ts, bx.seq, bx.kind, bx.vv⟩ : _ ∧ _ ∧ _ ∧ _ ∧ _ ∧ _ ∧ _)
 have nl : (l.ht : Int) < 1099511627776 := by omega
 have nr : (r.ht : Int) < 1099511627776 := by omega
 have d1 : decide ((r.ht : Int) + 1 < (l.ht : Int)) = false := by simp; omega
 have d2 : decide ((l.ht : Int) + 1 < (r.ht : Int)) = false := by simp; omega
 unfold EntD.cells at HJ
 unfold EntD.cells
 clear bx h1 h2 hs hG1 he1 hl1 hr1
 go_enter Tryz.func82, Tryz.ntmps82
 go_wp2_with fail
 rw [← HW.out]
 go_wp2_with (first | (go_at_call_of 90 (Value.pointer p); refine Calls.mono H1.out ?_; rintro e1 w1 ⟨rfl, rfl⟩) | (go_at_call_of 90 (Value.pointer q); refine Calls.mono H2.out ?_; rintro e1 w1 ⟨rfl, rfl⟩) | (go_at_call 81; refine Calls.mono HJ.out ?_; rintro e1 w1 ⟨b, rfl, ht, hb⟩))
 go_ret
 exact ⟨b, rfl, ht, A1.trans (hb.mono A1.size)⟩

set_option maxRecDepth 100000 in
set_option maxHeartbeats 8000000 in
theorem balance_LS {G : Nat → Prop} {w : World} {p q : Option Addr} {le e : EntD} {ll lr r : BT} (hl : IsT G w p (.node ll le lr)) (hr : IsT G w q r) (he : EOk G w e) (hs : BT.ht (.node ll le lr) < 549755813888 ∧ BT.ht r < 549755813888) (hG : ∀ i, w.heap.size ≤ i → G i)
  (h1 : r.ht + 1 < BT.ht (.node ll le lr)) (h2 : ¬ ll.ht < BT.ht lr) :
  Calls Tryz.prog 82 #[.pointer p, .agg e.cells, .pointer q] w fun x w' => ∃ b, x = .returned (.pointer (some ⟨b, 0, none⟩)) ∧ IsT G w' (some ⟨b, 0, none⟩) (.node ll le (.node lr e r)) ∧ Below w.heap.size w w' := by
 have A1 := (Below.refl w.heap.size w).alloc (Nat.le_refl _) (.cells e.cells 38)
 have bx := EBox.new w e
 obtain ⟨W, hW⟩ : ∃ W, W = w.alloc (.cells e.cells 38) := ⟨_, rfl⟩
 rw [← hW] at A1 bx
 have HW : Hid (W = w.alloc (.cells #[e.vr, .int .i64 e.fam, e.vq, .int .i64 e.ts, .int .i64 e.seq, .int .i64 e.kind, e.vv] 38)) := hW
 clear hW
 have hl1 := hl.kept (KpG.of A1)
 have hr1 := hr.kept (KpG.of A1)
 have he1 := he.kept (KpG.of A1)
 have hG1 : ∀ i, W.heap.size ≤ i → G i := fun i hi => hG i (Nat.le_trans A1.size hi)
 clear hl hr he hG
 obtain ⟨aL, haL⟩ : ∃ a, a = BT.ht (.node ll le lr) := ⟨_, rfl⟩
 obtain ⟨aR, haR⟩ : ∃ a, a = BT.ht r := ⟨_, rfl⟩
 have H1 : Hid (Calls Tryz.prog 90 #[.pointer p] W fun e w' => e = .returned (.int .i64 (aL : Int)) ∧ w' = W) := by rw [haL]; exact height_any hl1
 have H2 : Hid (Calls Tryz.prog 90 #[.pointer q] W fun e w' => e = .returned (.int .i64 (aR : Int)) ∧ w' = W) := by rw [haR]; exact height_any hr1
 rw [← haL] at hs h1
 rw [← haR] at hs h1
 obtain ⟨bb, pa, pb, rfl, hbb, nb, heb, hta, htb⟩ := hl1
 obtain ⟨aM, haM⟩ : ∃ a, a = BT.ht lr := ⟨_, rfl⟩
 obtain ⟨aS, haS⟩ : ∃ a, a = ll.ht := ⟨_, rfl⟩
 rw [← haM, ← haS] at h2
 have hbnd : aM < 549755813888 ∧ aS < 549755813888 := by
  have : BT.ht (.node ll le lr) = 1 + max ll.ht (BT.ht lr) := rfl
  omega
 have H3 : Hid (∀ wx, Below W.heap.size W wx → Calls Tryz.prog 90 #[.pointer pb] wx fun e w' => e = .returned (.int .i64 (aM : Int)) ∧ w' = wx) := fun wx b => by rw [haM]; exact height_any (htb.kept (KpG.of b))
 have H4 : Hid (∀ wx, Below W.heap.size W wx → Calls Tryz.prog 90 #[.pointer pa] wx fun e w' => e = .returned (.int .i64 (aS : Int)) ∧ w' = wx) := fun wx b => by rw [haS]; exact height_any (hta.kept (KpG.of b))
 have nb_ : ∀ {wx}, Below W.heap.size W wx → NBox wx bb le pa pb _ := fun b => (b.block bb nb.lt).trans nb
 have KS : Hid (∀ wx, Below W.heap.size W wx → wx.cell? ⟨w.heap.size, 0, none⟩ = some e.vr ∧ wx.cell? ⟨w.heap.size, 1, none⟩ = some (.int .i64 e.fam) ∧ wx.cell? ⟨w.heap.size, 2, none⟩ = some e.vq ∧ wx.cell? ⟨w.heap.size, 3, none⟩ = some (.int .i64 e.ts) ∧ wx.cell? ⟨w.heap.size, 4, none⟩ = some (.int .i64 e.seq) ∧ wx.cell? ⟨w.heap.size, 5, none⟩ = some (.int .i64 e.kind) ∧ wx.cell? ⟨w.heap.size, 6, none⟩ = some e.vv ∧ wx.cell? ⟨bb, 0, none⟩ = some le.vr ∧ wx.cell? ⟨bb, 1, none⟩ = some (.int .i64 le.fam) ∧ wx.cell? ⟨bb, 2, none⟩ = some le.vq ∧ wx.cell? ⟨bb, 3, none⟩ = some (.int .i64 le.ts) ∧ wx.cell? ⟨bb, 4, none⟩ = some (.int .i64 le.seq) ∧ wx.cell? ⟨bb, 5, none⟩ = some (.int .i64 le.kind) ∧ wx.cell? ⟨bb, 6, none⟩ = some le.vv ∧ wx.cell? ⟨bb, 7, none⟩ = some (.pointer pa) ∧ wx.cell? ⟨bb, 8, none⟩ = some (.pointer pb)) := fun wx b => ⟨(bx.later b).vr, (bx.later b).fam, (bx.later b).vq, (bx.later b).ts, (bx.later b).seq, (bx.later b).kind, (bx.later b).vv, (NBox.cells (nb_ b)).1, (NBox.cells (nb_ b)).2.1, (NBox.cells (nb_ b)).2.2.1, (NBox.cells (nb_ b)).2.2.2.1, (NBox.cells (nb_ b)).2.2.2.2.1, (NBox.cells (nb_ b)).2.2.2.2.2.1, (NBox.cells (nb_ b)).2.2.2.2.2.2.1, (NBox.cells (nb_ b)).2.2.2.2.2.2.2.1, (NBox.cells (nb_ b)).2.2.2.2.2.2.2.2.1⟩
 have HJ1 : Hid (∀ wx, Below W.heap.size W wx → Calls Tryz.prog 81 #[.pointer pb, .agg #[e.vr, .int .i64 e.fam, e.vq, .int .i64 e.ts, .int .i64 e.seq, .int .i64 e.kind, e.vv], .pointer q] wx fun x w' => ∃ b, x = .returned (.pointer (some ⟨b, 0, none⟩)) ∧ IsT G w' (some ⟨b, 0, none⟩) (.node lr e r) ∧ Below wx.heap.size wx w') := fun wx b => by
  refine join_tree (l := lr) (r := r) (htb.kept (KpG.of b)) (hr1.kept (KpG.of b)) (he1.kept (KpG.of b)) ?_ (fun i hi => hG1 i (Nat.le_trans b.size hi))
  simp only [BT.ht] at *
  omega
 have HJ2 : Hid (∀ wx b1, Below W.heap.size W wx → IsT G wx (some ⟨b1, 0, none⟩) (.node lr e r) → Calls Tryz.prog 81 #[.pointer pa, .agg #[le.vr, .int .i64 le.fam, le.vq, .int .i64 le.ts, .int .i64 le.seq, .int .i64 le.kind, le.vv], .pointer (some ⟨b1, 0, none⟩)] wx fun x w' => ∃ b, x = .returned (.pointer (some ⟨b, 0, none⟩)) ∧ IsT G w' (some ⟨b, 0, none⟩) (.node ll le (.node lr e r)) ∧ Below wx.heap.size wx w') := fun wx b1 b t1 => by
  refine join_tree (l := ll) (r := (.node lr e r)) (hta.kept (KpG.of b)) t1 (heb.kept (KpG.of b)) ?_ (fun i hi => hG1 i (Nat.le_trans b.size hi))
  simp only [BT.ht] at *
  omega
 have nl : (aL : Int) < 1099511627776 := by omega
 have nr : (aR : Int) < 1099511627776 := by omega
 have d1 : decide ((aR : Int) + 1 < (aL : Int)) = true := by simp; omega
 have d2 : decide ((aL : Int) + 1 < (aR : Int)) = false := by simp; omega
 have d3 : decide (aS < aM) = false := by simp; omega
 have D : Below W.heap.size W W := Below.refl _ _
 have DD : Below W.heap.size W W.drew := D.drew
 have D0 : Below W.heap.size W W.drew.drew := D.drew.drew
 obtain ⟨x7, x8⟩ : W.cell? ⟨bb, 7, none⟩ = some (.pointer pa) ∧ W.cell? ⟨bb, 8, none⟩ = some (.pointer pb) := ⟨(NBox.cells nb).2.2.2.2.2.2.2.1, (NBox.cells nb).2.2.2.2.2.2.2.2.1⟩
 unfold EntD.cells
 clear bx h1 h2 hs hG1 he1 heb hta htb hbnd nb nb_ haL haR haM haS hr1
 go_enter Tryz.func82, Tryz.ntmps82
 go_wp2_with fail
 rw [← HW.out]
 go_wp2_with (first | (go_at_call_of 90 (Value.pointer (some ⟨bb, 0, none⟩)); refine Calls.mono H1.out ?_; rintro e1 w1 ⟨rfl, rfl⟩) | (go_at_call_of 90 (Value.pointer q); refine Calls.mono H2.out ?_; rintro e1 w1 ⟨rfl, rfl⟩))
 go_region_held3 (fun wx => wx.cell? ⟨bb, 7, none⟩ = some (.pointer pa) ∧ wx.cell? ⟨bb, 8, none⟩ = some (.pointer pb)) (first | exact ⟨x7, x8⟩) (first | (go_at_call_of 90 (Value.pointer pb); refine Calls.mono (H3.out _ DD) ?_; rintro e1 w1 ⟨rfl, rfl⟩) | (go_at_call_of 90 (Value.pointer pa); refine Calls.mono (H4.out _ DD) ?_; rintro e1 w1 ⟨rfl, rfl⟩))

 go_wp2_with fail
 go_region_held3 (fun wx => wx.cell? ⟨w.heap.size, 0, none⟩ = some e.vr ∧ wx.cell? ⟨w.heap.size, 1, none⟩ = some (.int .i64 e.fam) ∧ wx.cell? ⟨w.heap.size, 2, none⟩ = some e.vq ∧ wx.cell? ⟨w.heap.size, 3, none⟩ = some (.int .i64 e.ts) ∧ wx.cell? ⟨w.heap.size, 4, none⟩ = some (.int .i64 e.seq) ∧ wx.cell? ⟨w.heap.size, 5, none⟩ = some (.int .i64 e.kind) ∧ wx.cell? ⟨w.heap.size, 6, none⟩ = some e.vv ∧ wx.cell? ⟨bb, 0, none⟩ = some le.vr ∧ wx.cell? ⟨bb, 1, none⟩ = some (.int .i64 le.fam) ∧ wx.cell? ⟨bb, 2, none⟩ = some le.vq ∧ wx.cell? ⟨bb, 3, none⟩ = some (.int .i64 le.ts) ∧ wx.cell? ⟨bb, 4, none⟩ = some (.int .i64 le.seq) ∧ wx.cell? ⟨bb, 5, none⟩ = some (.int .i64 le.kind) ∧ wx.cell? ⟨bb, 6, none⟩ = some le.vv ∧ wx.cell? ⟨bb, 7, none⟩ = some (.pointer pa) ∧ wx.cell? ⟨bb, 8, none⟩ = some (.pointer pb)) (first | exact KS.out _ D0 | exact KS.out _ D1 | exact KS.out _ D2) (first | (go_at_call_of 81 (Value.agg #[e.vr, Value.int IntKind.i64 e.fam, e.vq, Value.int IntKind.i64 e.ts, Value.int IntKind.i64 e.seq, Value.int IntKind.i64 e.kind, e.vv]); refine Calls.mono (HJ1.out _ D0) ?_; rintro e1 w5 ⟨b1, rfl, t1, k1⟩; have D1 := D0.trans (k1.mono D0.size)) | (go_at_call_of 81 (Value.agg #[le.vr, Value.int IntKind.i64 le.fam, le.vq, Value.int IntKind.i64 le.ts, Value.int IntKind.i64 le.seq, Value.int IntKind.i64 le.kind, le.vv]); refine Calls.mono (HJ2.out _ _ D1 t1) ?_; rintro e1 w6 ⟨b2, rfl, t2, k2⟩; have D2 := D1.trans (k2.mono D1.size)))
 go_wp2
 go_ret
 exact ⟨_, rfl, t2, A1.trans (D2.mono A1.size)⟩

set_option maxRecDepth 100000 in
set_option maxHeartbeats 8000000 in
theorem balance_RS {G : Nat → Prop} {w : World} {p q : Option Addr} {re e : EntD} {l rl rr : BT} (hl : IsT G w p l) (hr : IsT G w q (.node rl re rr)) (he : EOk G w e) (hs : BT.ht l < 549755813888 ∧ BT.ht (.node rl re rr) < 549755813888) (hG : ∀ i, w.heap.size ≤ i → G i)
  (h1 : l.ht + 1 < BT.ht (.node rl re rr)) (h2 : ¬ rr.ht < BT.ht rl) :
  Calls Tryz.prog 82 #[.pointer p, .agg e.cells, .pointer q] w fun x w' => ∃ b, x = .returned (.pointer (some ⟨b, 0, none⟩)) ∧ IsT G w' (some ⟨b, 0, none⟩) (.node (.node l e rl) re rr) ∧ Below w.heap.size w w' := by
 have A1 := (Below.refl w.heap.size w).alloc (Nat.le_refl _) (.cells e.cells 38)
 have bx := EBox.new w e
 obtain ⟨W, hW⟩ : ∃ W, W = w.alloc (.cells e.cells 38) := ⟨_, rfl⟩
 rw [← hW] at A1 bx
 have HW : Hid (W = w.alloc (.cells #[e.vr, .int .i64 e.fam, e.vq, .int .i64 e.ts, .int .i64 e.seq, .int .i64 e.kind, e.vv] 38)) := hW
 clear hW
 have hl1 := hl.kept (KpG.of A1)
 have hr1 := hr.kept (KpG.of A1)
 have he1 := he.kept (KpG.of A1)
 have hG1 : ∀ i, W.heap.size ≤ i → G i := fun i hi => hG i (Nat.le_trans A1.size hi)
 clear hl hr he hG
 obtain ⟨aL, haL⟩ : ∃ a, a = BT.ht l := ⟨_, rfl⟩
 obtain ⟨aR, haR⟩ : ∃ a, a = BT.ht (.node rl re rr) := ⟨_, rfl⟩
 have H1 : Hid (Calls Tryz.prog 90 #[.pointer p] W fun e w' => e = .returned (.int .i64 (aL : Int)) ∧ w' = W) := by rw [haL]; exact height_any hl1
 have H2 : Hid (Calls Tryz.prog 90 #[.pointer q] W fun e w' => e = .returned (.int .i64 (aR : Int)) ∧ w' = W) := by rw [haR]; exact height_any hr1
 rw [← haL] at hs h1
 rw [← haR] at hs h1
 obtain ⟨bb, pa, pb, rfl, hbb, nb, heb, hta, htb⟩ := hr1
 obtain ⟨aM, haM⟩ : ∃ a, a = BT.ht rl := ⟨_, rfl⟩
 obtain ⟨aS, haS⟩ : ∃ a, a = rr.ht := ⟨_, rfl⟩
 rw [← haM, ← haS] at h2
 have hbnd : aM < 549755813888 ∧ aS < 549755813888 := by
  have : BT.ht (.node rl re rr) = 1 + max (BT.ht rl) rr.ht := rfl
  omega
 have H3 : Hid (∀ wx, Below W.heap.size W wx → Calls Tryz.prog 90 #[.pointer pa] wx fun e w' => e = .returned (.int .i64 (aM : Int)) ∧ w' = wx) := fun wx b => by rw [haM]; exact height_any (hta.kept (KpG.of b))
 have H4 : Hid (∀ wx, Below W.heap.size W wx → Calls Tryz.prog 90 #[.pointer pb] wx fun e w' => e = .returned (.int .i64 (aS : Int)) ∧ w' = wx) := fun wx b => by rw [haS]; exact height_any (htb.kept (KpG.of b))
 have nb_ : ∀ {wx}, Below W.heap.size W wx → NBox wx bb re pa pb _ := fun b => (b.block bb nb.lt).trans nb
 have KS : Hid (∀ wx, Below W.heap.size W wx → wx.cell? ⟨w.heap.size, 0, none⟩ = some e.vr ∧ wx.cell? ⟨w.heap.size, 1, none⟩ = some (.int .i64 e.fam) ∧ wx.cell? ⟨w.heap.size, 2, none⟩ = some e.vq ∧ wx.cell? ⟨w.heap.size, 3, none⟩ = some (.int .i64 e.ts) ∧ wx.cell? ⟨w.heap.size, 4, none⟩ = some (.int .i64 e.seq) ∧ wx.cell? ⟨w.heap.size, 5, none⟩ = some (.int .i64 e.kind) ∧ wx.cell? ⟨w.heap.size, 6, none⟩ = some e.vv ∧ wx.cell? ⟨bb, 0, none⟩ = some re.vr ∧ wx.cell? ⟨bb, 1, none⟩ = some (.int .i64 re.fam) ∧ wx.cell? ⟨bb, 2, none⟩ = some re.vq ∧ wx.cell? ⟨bb, 3, none⟩ = some (.int .i64 re.ts) ∧ wx.cell? ⟨bb, 4, none⟩ = some (.int .i64 re.seq) ∧ wx.cell? ⟨bb, 5, none⟩ = some (.int .i64 re.kind) ∧ wx.cell? ⟨bb, 6, none⟩ = some re.vv ∧ wx.cell? ⟨bb, 7, none⟩ = some (.pointer pa) ∧ wx.cell? ⟨bb, 8, none⟩ = some (.pointer pb)) := fun wx b => ⟨(bx.later b).vr, (bx.later b).fam, (bx.later b).vq, (bx.later b).ts, (bx.later b).seq, (bx.later b).kind, (bx.later b).vv, (NBox.cells (nb_ b)).1, (NBox.cells (nb_ b)).2.1, (NBox.cells (nb_ b)).2.2.1, (NBox.cells (nb_ b)).2.2.2.1, (NBox.cells (nb_ b)).2.2.2.2.1, (NBox.cells (nb_ b)).2.2.2.2.2.1, (NBox.cells (nb_ b)).2.2.2.2.2.2.1, (NBox.cells (nb_ b)).2.2.2.2.2.2.2.1, (NBox.cells (nb_ b)).2.2.2.2.2.2.2.2.1⟩
 have HJ1 : Hid (∀ wx, Below W.heap.size W wx → Calls Tryz.prog 81 #[.pointer p, .agg #[e.vr, .int .i64 e.fam, e.vq, .int .i64 e.ts, .int .i64 e.seq, .int .i64 e.kind, e.vv], .pointer pa] wx fun x w' => ∃ b, x = .returned (.pointer (some ⟨b, 0, none⟩)) ∧ IsT G w' (some ⟨b, 0, none⟩) (.node l e rl) ∧ Below wx.heap.size wx w') := fun wx b => by
  refine join_tree (l := l) (r := rl) (hl1.kept (KpG.of b)) (hta.kept (KpG.of b)) (he1.kept (KpG.of b)) ?_ (fun i hi => hG1 i (Nat.le_trans b.size hi))
  simp only [BT.ht] at *
  omega
 have HJ2 : Hid (∀ wx b1, Below W.heap.size W wx → IsT G wx (some ⟨b1, 0, none⟩) (.node l e rl) → Calls Tryz.prog 81 #[.pointer (some ⟨b1, 0, none⟩), .agg #[re.vr, .int .i64 re.fam, re.vq, .int .i64 re.ts, .int .i64 re.seq, .int .i64 re.kind, re.vv], .pointer pb] wx fun x w' => ∃ b, x = .returned (.pointer (some ⟨b, 0, none⟩)) ∧ IsT G w' (some ⟨b, 0, none⟩) (.node (.node l e rl) re rr) ∧ Below wx.heap.size wx w') := fun wx b1 b t1 => by
  refine join_tree (l := (.node l e rl)) (r := rr) t1 (htb.kept (KpG.of b)) (heb.kept (KpG.of b)) ?_ (fun i hi => hG1 i (Nat.le_trans b.size hi))
  simp only [BT.ht] at *
  omega
 have nl : (aL : Int) < 1099511627776 := by omega
 have nr : (aR : Int) < 1099511627776 := by omega
 have d1 : decide ((aR : Int) + 1 < (aL : Int)) = false := by simp; omega
 have d2 : decide ((aL : Int) + 1 < (aR : Int)) = true := by simp; omega
 have d3 : decide (aS < aM) = false := by simp; omega
 have D : Below W.heap.size W W := Below.refl _ _
 have DD : Below W.heap.size W W.drew := D.drew
 have D0 : Below W.heap.size W W.drew.drew := D.drew.drew
 obtain ⟨x7, x8⟩ : W.cell? ⟨bb, 7, none⟩ = some (.pointer pa) ∧ W.cell? ⟨bb, 8, none⟩ = some (.pointer pb) := ⟨(NBox.cells nb).2.2.2.2.2.2.2.1, (NBox.cells nb).2.2.2.2.2.2.2.2.1⟩
 unfold EntD.cells
 clear bx h1 h2 hs hG1 he1 heb hta htb hbnd nb nb_ haL haR haM haS hl1
 go_enter Tryz.func82, Tryz.ntmps82
 go_wp2_with fail
 rw [← HW.out]
 go_wp2_with (first | (go_at_call_of 90 (Value.pointer p); refine Calls.mono H1.out ?_; rintro e1 w1 ⟨rfl, rfl⟩) | (go_at_call_of 90 (Value.pointer (some ⟨bb, 0, none⟩)); refine Calls.mono H2.out ?_; rintro e1 w1 ⟨rfl, rfl⟩))
 go_region_held3 (fun wx => wx.cell? ⟨bb, 7, none⟩ = some (.pointer pa) ∧ wx.cell? ⟨bb, 8, none⟩ = some (.pointer pb)) (first | exact ⟨x7, x8⟩) (first | (go_at_call_of 90 (Value.pointer pa); refine Calls.mono (H3.out _ DD) ?_; rintro e1 w1 ⟨rfl, rfl⟩) | (go_at_call_of 90 (Value.pointer pb); refine Calls.mono (H4.out _ DD) ?_; rintro e1 w1 ⟨rfl, rfl⟩))

 go_wp2_with fail
 go_region_held3 (fun wx => wx.cell? ⟨w.heap.size, 0, none⟩ = some e.vr ∧ wx.cell? ⟨w.heap.size, 1, none⟩ = some (.int .i64 e.fam) ∧ wx.cell? ⟨w.heap.size, 2, none⟩ = some e.vq ∧ wx.cell? ⟨w.heap.size, 3, none⟩ = some (.int .i64 e.ts) ∧ wx.cell? ⟨w.heap.size, 4, none⟩ = some (.int .i64 e.seq) ∧ wx.cell? ⟨w.heap.size, 5, none⟩ = some (.int .i64 e.kind) ∧ wx.cell? ⟨w.heap.size, 6, none⟩ = some e.vv ∧ wx.cell? ⟨bb, 0, none⟩ = some re.vr ∧ wx.cell? ⟨bb, 1, none⟩ = some (.int .i64 re.fam) ∧ wx.cell? ⟨bb, 2, none⟩ = some re.vq ∧ wx.cell? ⟨bb, 3, none⟩ = some (.int .i64 re.ts) ∧ wx.cell? ⟨bb, 4, none⟩ = some (.int .i64 re.seq) ∧ wx.cell? ⟨bb, 5, none⟩ = some (.int .i64 re.kind) ∧ wx.cell? ⟨bb, 6, none⟩ = some re.vv ∧ wx.cell? ⟨bb, 7, none⟩ = some (.pointer pa) ∧ wx.cell? ⟨bb, 8, none⟩ = some (.pointer pb)) (first | exact KS.out _ D0 | exact KS.out _ D1 | exact KS.out _ D2) (first | (go_at_call_of 81 (Value.agg #[e.vr, Value.int IntKind.i64 e.fam, e.vq, Value.int IntKind.i64 e.ts, Value.int IntKind.i64 e.seq, Value.int IntKind.i64 e.kind, e.vv]); refine Calls.mono (HJ1.out _ D0) ?_; rintro e1 w5 ⟨b1, rfl, t1, k1⟩; have D1 := D0.trans (k1.mono D0.size)) | (go_at_call_of 81 (Value.agg #[re.vr, Value.int IntKind.i64 re.fam, re.vq, Value.int IntKind.i64 re.ts, Value.int IntKind.i64 re.seq, Value.int IntKind.i64 re.kind, re.vv]); refine Calls.mono (HJ2.out _ _ D1 t1) ?_; rintro e1 w6 ⟨b2, rfl, t2, k2⟩; have D2 := D1.trans (k2.mono D1.size)))
 go_wp2
 go_ret
 exact ⟨_, rfl, t2, A1.trans (D2.mono A1.size)⟩

set_option maxRecDepth 100000 in
set_option maxHeartbeats 8000000 in
theorem balance_LD {G : Nat → Prop} {w : World} {p q : Option Addr} {le me e : EntD} {ll ml mr r : BT} (hl : IsT G w p (.node ll le (.node ml me mr))) (hr : IsT G w q r) (he : EOk G w e) (hs : BT.ht (.node ll le (.node ml me mr)) < 549755813888 ∧ BT.ht r < 549755813888) (hG : ∀ i, w.heap.size ≤ i → G i)
  (h1 : r.ht + 1 < BT.ht (.node ll le (.node ml me mr))) (h2 :  ll.ht < BT.ht (BT.node ml me mr)) :
  Calls Tryz.prog 82 #[.pointer p, .agg e.cells, .pointer q] w fun x w' => ∃ b, x = .returned (.pointer (some ⟨b, 0, none⟩)) ∧ IsT G w' (some ⟨b, 0, none⟩) (.node (.node ll le ml) me (.node mr e r)) ∧ Below w.heap.size w w' := by
 have A1 := (Below.refl w.heap.size w).alloc (Nat.le_refl _) (.cells e.cells 38)
 have bx := EBox.new w e
 obtain ⟨W, hW⟩ : ∃ W, W = w.alloc (.cells e.cells 38) := ⟨_, rfl⟩
 rw [← hW] at A1 bx
 have HW : Hid (W = w.alloc (.cells #[e.vr, .int .i64 e.fam, e.vq, .int .i64 e.ts, .int .i64 e.seq, .int .i64 e.kind, e.vv] 38)) := hW
 clear hW
 have hl1 := hl.kept (KpG.of A1)
 have hr1 := hr.kept (KpG.of A1)
 have he1 := he.kept (KpG.of A1)
 have hG1 : ∀ i, W.heap.size ≤ i → G i := fun i hi => hG i (Nat.le_trans A1.size hi)
 clear hl hr he hG
 obtain ⟨aL, haL⟩ : ∃ a, a = BT.ht (.node ll le (.node ml me mr)) := ⟨_, rfl⟩
 obtain ⟨aR, haR⟩ : ∃ a, a = BT.ht r := ⟨_, rfl⟩
 have H1 : Hid (Calls Tryz.prog 90 #[.pointer p] W fun e w' => e = .returned (.int .i64 (aL : Int)) ∧ w' = W) := by rw [haL]; exact height_any hl1
 have H2 : Hid (Calls Tryz.prog 90 #[.pointer q] W fun e w' => e = .returned (.int .i64 (aR : Int)) ∧ w' = W) := by rw [haR]; exact height_any hr1
 rw [← haL] at hs h1
 rw [← haR] at hs h1
 obtain ⟨bb, pa, pb, rfl, hbb, nb, heb, hta, htb⟩ := hl1
 obtain ⟨aM, haM⟩ : ∃ a, a = BT.ht (BT.node ml me mr) := ⟨_, rfl⟩
 obtain ⟨aS, haS⟩ : ∃ a, a = ll.ht := ⟨_, rfl⟩
 rw [← haM, ← haS] at h2
 have hbnd : aM < 549755813888 ∧ aS < 549755813888 := by
  have : BT.ht (.node ll le (.node ml me mr)) = 1 + max ll.ht (BT.ht (BT.node ml me mr)) := rfl
  omega
 have H3 : Hid (∀ wx, Below W.heap.size W wx → Calls Tryz.prog 90 #[.pointer pb] wx fun e w' => e = .returned (.int .i64 (aM : Int)) ∧ w' = wx) := fun wx b => by rw [haM]; exact height_any (htb.kept (KpG.of b))
 have H4 : Hid (∀ wx, Below W.heap.size W wx → Calls Tryz.prog 90 #[.pointer pa] wx fun e w' => e = .returned (.int .i64 (aS : Int)) ∧ w' = wx) := fun wx b => by rw [haS]; exact height_any (hta.kept (KpG.of b))
 obtain ⟨bm, pc, pd, rfl, hbm, nm, hem, htc, htd⟩ := htb
 have nm_ : ∀ {wx}, Below W.heap.size W wx → NBox wx bm me pc pd _ := fun b => (b.block bm nm.lt).trans nm
 have nb_ : ∀ {wx}, Below W.heap.size W wx → NBox wx bb le pa (some ⟨bm, 0, none⟩) _ := fun b => (b.block bb nb.lt).trans nb
 have KS : Hid (∀ wx, Below W.heap.size W wx → wx.cell? ⟨w.heap.size, 0, none⟩ = some e.vr ∧ wx.cell? ⟨w.heap.size, 1, none⟩ = some (.int .i64 e.fam) ∧ wx.cell? ⟨w.heap.size, 2, none⟩ = some e.vq ∧ wx.cell? ⟨w.heap.size, 3, none⟩ = some (.int .i64 e.ts) ∧ wx.cell? ⟨w.heap.size, 4, none⟩ = some (.int .i64 e.seq) ∧ wx.cell? ⟨w.heap.size, 5, none⟩ = some (.int .i64 e.kind) ∧ wx.cell? ⟨w.heap.size, 6, none⟩ = some e.vv ∧ wx.cell? ⟨bb, 0, none⟩ = some le.vr ∧ wx.cell? ⟨bb, 1, none⟩ = some (.int .i64 le.fam) ∧ wx.cell? ⟨bb, 2, none⟩ = some le.vq ∧ wx.cell? ⟨bb, 3, none⟩ = some (.int .i64 le.ts) ∧ wx.cell? ⟨bb, 4, none⟩ = some (.int .i64 le.seq) ∧ wx.cell? ⟨bb, 5, none⟩ = some (.int .i64 le.kind) ∧ wx.cell? ⟨bb, 6, none⟩ = some le.vv ∧ wx.cell? ⟨bb, 7, none⟩ = some (.pointer pa) ∧ wx.cell? ⟨bb, 8, none⟩ = some (.pointer (some ⟨bm, 0, none⟩)) ∧ wx.cell? ⟨bm, 0, none⟩ = some me.vr ∧ wx.cell? ⟨bm, 1, none⟩ = some (.int .i64 me.fam) ∧ wx.cell? ⟨bm, 2, none⟩ = some me.vq ∧ wx.cell? ⟨bm, 3, none⟩ = some (.int .i64 me.ts) ∧ wx.cell? ⟨bm, 4, none⟩ = some (.int .i64 me.seq) ∧ wx.cell? ⟨bm, 5, none⟩ = some (.int .i64 me.kind) ∧ wx.cell? ⟨bm, 6, none⟩ = some me.vv ∧ wx.cell? ⟨bm, 7, none⟩ = some (.pointer pc) ∧ wx.cell? ⟨bm, 8, none⟩ = some (.pointer pd)) := fun wx b => ⟨(bx.later b).vr, (bx.later b).fam, (bx.later b).vq, (bx.later b).ts, (bx.later b).seq, (bx.later b).kind, (bx.later b).vv, (NBox.cells (nb_ b)).1, (NBox.cells (nb_ b)).2.1, (NBox.cells (nb_ b)).2.2.1, (NBox.cells (nb_ b)).2.2.2.1, (NBox.cells (nb_ b)).2.2.2.2.1, (NBox.cells (nb_ b)).2.2.2.2.2.1, (NBox.cells (nb_ b)).2.2.2.2.2.2.1, (NBox.cells (nb_ b)).2.2.2.2.2.2.2.1, (NBox.cells (nb_ b)).2.2.2.2.2.2.2.2.1, (NBox.cells (nm_ b)).1, (NBox.cells (nm_ b)).2.1, (NBox.cells (nm_ b)).2.2.1, (NBox.cells (nm_ b)).2.2.2.1, (NBox.cells (nm_ b)).2.2.2.2.1, (NBox.cells (nm_ b)).2.2.2.2.2.1, (NBox.cells (nm_ b)).2.2.2.2.2.2.1, (NBox.cells (nm_ b)).2.2.2.2.2.2.2.1, (NBox.cells (nm_ b)).2.2.2.2.2.2.2.2.1⟩
 have hb4 : ml.ht < 549755813888 ∧ mr.ht < 549755813888 := by
  have e1 : BT.ht (.node ml me mr) = 1 + max ml.ht mr.ht := rfl
  omega
 have HJ1 : Hid (∀ wx, Below W.heap.size W wx → Calls Tryz.prog 81 #[.pointer pa, .agg #[le.vr, .int .i64 le.fam, le.vq, .int .i64 le.ts, .int .i64 le.seq, .int .i64 le.kind, le.vv], .pointer pc] wx fun x w' => ∃ b, x = .returned (.pointer (some ⟨b, 0, none⟩)) ∧ IsT G w' (some ⟨b, 0, none⟩) (.node ll le ml) ∧ Below wx.heap.size wx w') := fun wx b => by
  refine join_tree (l := ll) (r := ml) (hta.kept (KpG.of b)) (htc.kept (KpG.of b)) (heb.kept (KpG.of b)) ?_ (fun i hi => hG1 i (Nat.le_trans b.size hi))
  simp only [BT.ht] at *
  omega
 have HJ2 : Hid (∀ wx, Below W.heap.size W wx → Calls Tryz.prog 81 #[.pointer pd, .agg #[e.vr, .int .i64 e.fam, e.vq, .int .i64 e.ts, .int .i64 e.seq, .int .i64 e.kind, e.vv], .pointer q] wx fun x w' => ∃ b, x = .returned (.pointer (some ⟨b, 0, none⟩)) ∧ IsT G w' (some ⟨b, 0, none⟩) (.node mr e r) ∧ Below wx.heap.size wx w') := fun wx b => by
  refine join_tree (l := mr) (r := r) (htd.kept (KpG.of b)) (hr1.kept (KpG.of b)) (he1.kept (KpG.of b)) ?_ (fun i hi => hG1 i (Nat.le_trans b.size hi))
  simp only [BT.ht] at *
  omega
 have HJ3 : Hid (∀ wx b1 b2, Below W.heap.size W wx → IsT G wx (some ⟨b1, 0, none⟩) (.node ll le ml) → IsT G wx (some ⟨b2, 0, none⟩) (.node mr e r) → Calls Tryz.prog 81 #[.pointer (some ⟨b1, 0, none⟩), .agg #[me.vr, .int .i64 me.fam, me.vq, .int .i64 me.ts, .int .i64 me.seq, .int .i64 me.kind, me.vv], .pointer (some ⟨b2, 0, none⟩)] wx fun x w' => ∃ b, x = .returned (.pointer (some ⟨b, 0, none⟩)) ∧ IsT G w' (some ⟨b, 0, none⟩) (.node (.node ll le ml) me (.node mr e r)) ∧ Below wx.heap.size wx w') := fun wx b1 b2 b t1 t2 => by
  refine join_tree (l := (.node ll le ml)) (r := (.node mr e r)) t1 t2 (hem.kept (KpG.of b)) ?_ (fun i hi => hG1 i (Nat.le_trans b.size hi))
  simp only [BT.ht] at *
  omega
 have nl : (aL : Int) < 1099511627776 := by omega
 have nr : (aR : Int) < 1099511627776 := by omega
 have d1 : decide ((aR : Int) + 1 < (aL : Int)) = true := by simp; omega
 have d2 : decide ((aL : Int) + 1 < (aR : Int)) = false := by simp; omega
 have d3 : decide (aS < aM) = true := by simp; omega
 have D : Below W.heap.size W W := Below.refl _ _
 have DD : Below W.heap.size W W.drew := D.drew
 have D0 : Below W.heap.size W W.drew.drew := D.drew.drew
 obtain ⟨x7, x8⟩ : W.cell? ⟨bb, 7, none⟩ = some (.pointer pa) ∧ W.cell? ⟨bb, 8, none⟩ = some (.pointer (some ⟨bm, 0, none⟩)) := ⟨(NBox.cells nb).2.2.2.2.2.2.2.1, (NBox.cells nb).2.2.2.2.2.2.2.2.1⟩
 unfold EntD.cells
 clear bx h1 h2 hs hG1 he1 heb htc htd hbnd nb nb_ haL haR haM haS hr1 hem nm nm_ hb4 hta
 go_enter Tryz.func82, Tryz.ntmps82
 go_wp2_with fail
 rw [← HW.out]
 go_wp2_with (first | (go_at_call_of 90 (Value.pointer (some ⟨bb, 0, none⟩)); refine Calls.mono H1.out ?_; rintro e1 w1 ⟨rfl, rfl⟩) | (go_at_call_of 90 (Value.pointer q); refine Calls.mono H2.out ?_; rintro e1 w1 ⟨rfl, rfl⟩))
 go_region_held3 (fun wx => wx.cell? ⟨bb, 7, none⟩ = some (.pointer pa) ∧ wx.cell? ⟨bb, 8, none⟩ = some (.pointer (some ⟨bm, 0, none⟩))) (first | exact ⟨x7, x8⟩) (first | (go_at_call_of 90 (Value.pointer (some ⟨bm, 0, none⟩)); refine Calls.mono (H3.out _ DD) ?_; rintro e1 w1 ⟨rfl, rfl⟩) | (go_at_call_of 90 (Value.pointer pa); refine Calls.mono (H4.out _ DD) ?_; rintro e1 w1 ⟨rfl, rfl⟩))

 go_wp2_with fail
 go_region_held3 (fun wx => wx.cell? ⟨w.heap.size, 0, none⟩ = some e.vr ∧ wx.cell? ⟨w.heap.size, 1, none⟩ = some (.int .i64 e.fam) ∧ wx.cell? ⟨w.heap.size, 2, none⟩ = some e.vq ∧ wx.cell? ⟨w.heap.size, 3, none⟩ = some (.int .i64 e.ts) ∧ wx.cell? ⟨w.heap.size, 4, none⟩ = some (.int .i64 e.seq) ∧ wx.cell? ⟨w.heap.size, 5, none⟩ = some (.int .i64 e.kind) ∧ wx.cell? ⟨w.heap.size, 6, none⟩ = some e.vv ∧ wx.cell? ⟨bb, 0, none⟩ = some le.vr ∧ wx.cell? ⟨bb, 1, none⟩ = some (.int .i64 le.fam) ∧ wx.cell? ⟨bb, 2, none⟩ = some le.vq ∧ wx.cell? ⟨bb, 3, none⟩ = some (.int .i64 le.ts) ∧ wx.cell? ⟨bb, 4, none⟩ = some (.int .i64 le.seq) ∧ wx.cell? ⟨bb, 5, none⟩ = some (.int .i64 le.kind) ∧ wx.cell? ⟨bb, 6, none⟩ = some le.vv ∧ wx.cell? ⟨bb, 7, none⟩ = some (.pointer pa) ∧ wx.cell? ⟨bb, 8, none⟩ = some (.pointer (some ⟨bm, 0, none⟩)) ∧ wx.cell? ⟨bm, 0, none⟩ = some me.vr ∧ wx.cell? ⟨bm, 1, none⟩ = some (.int .i64 me.fam) ∧ wx.cell? ⟨bm, 2, none⟩ = some me.vq ∧ wx.cell? ⟨bm, 3, none⟩ = some (.int .i64 me.ts) ∧ wx.cell? ⟨bm, 4, none⟩ = some (.int .i64 me.seq) ∧ wx.cell? ⟨bm, 5, none⟩ = some (.int .i64 me.kind) ∧ wx.cell? ⟨bm, 6, none⟩ = some me.vv ∧ wx.cell? ⟨bm, 7, none⟩ = some (.pointer pc) ∧ wx.cell? ⟨bm, 8, none⟩ = some (.pointer pd)) (first | exact KS.out _ D0 | exact KS.out _ D1 | exact KS.out _ D2 | exact KS.out _ D3) (first | (go_at_call_of 81 (Value.agg #[le.vr, Value.int IntKind.i64 le.fam, le.vq, Value.int IntKind.i64 le.ts, Value.int IntKind.i64 le.seq, Value.int IntKind.i64 le.kind, le.vv]); refine Calls.mono (HJ1.out _ D0) ?_; rintro e1 w5 ⟨b1, rfl, t1, k1⟩; have D1 := D0.trans (k1.mono D0.size)) | (go_at_call_of 81 (Value.agg #[e.vr, Value.int IntKind.i64 e.fam, e.vq, Value.int IntKind.i64 e.ts, Value.int IntKind.i64 e.seq, Value.int IntKind.i64 e.kind, e.vv]); refine Calls.mono (HJ2.out _ D1) ?_; rintro e1 w6 ⟨b2, rfl, t2, k2⟩; have D2 := D1.trans (k2.mono D1.size)) | (go_at_call_of 81 (Value.agg #[me.vr, Value.int IntKind.i64 me.fam, me.vq, Value.int IntKind.i64 me.ts, Value.int IntKind.i64 me.seq, Value.int IntKind.i64 me.kind, me.vv]); refine Calls.mono (HJ3.out _ _ _ D2 (t1.kept (KpG.of k2)) t2) ?_; rintro e1 w7 ⟨b3, rfl, t3, k3⟩; have D3 := D2.trans (k3.mono D2.size)))
 go_wp2
 go_ret
 exact ⟨_, rfl, t3, A1.trans (D3.mono A1.size)⟩

set_option maxRecDepth 100000 in
set_option maxHeartbeats 8000000 in
theorem balance_RD {G : Nat → Prop} {w : World} {p q : Option Addr} {re me e : EntD} {l ml mr rr : BT} (hl : IsT G w p l) (hr : IsT G w q (.node (.node ml me mr) re rr)) (he : EOk G w e) (hs : BT.ht l < 549755813888 ∧ BT.ht (.node (.node ml me mr) re rr) < 549755813888) (hG : ∀ i, w.heap.size ≤ i → G i)
  (h1 : l.ht + 1 < BT.ht (.node (.node ml me mr) re rr)) (h2 :  rr.ht < BT.ht (BT.node ml me mr)) :
  Calls Tryz.prog 82 #[.pointer p, .agg e.cells, .pointer q] w fun x w' => ∃ b, x = .returned (.pointer (some ⟨b, 0, none⟩)) ∧ IsT G w' (some ⟨b, 0, none⟩) (.node (.node l e ml) me (.node mr re rr)) ∧ Below w.heap.size w w' := by
 have A1 := (Below.refl w.heap.size w).alloc (Nat.le_refl _) (.cells e.cells 38)
 have bx := EBox.new w e
 obtain ⟨W, hW⟩ : ∃ W, W = w.alloc (.cells e.cells 38) := ⟨_, rfl⟩
 rw [← hW] at A1 bx
 have HW : Hid (W = w.alloc (.cells #[e.vr, .int .i64 e.fam, e.vq, .int .i64 e.ts, .int .i64 e.seq, .int .i64 e.kind, e.vv] 38)) := hW
 clear hW
 have hl1 := hl.kept (KpG.of A1)
 have hr1 := hr.kept (KpG.of A1)
 have he1 := he.kept (KpG.of A1)
 have hG1 : ∀ i, W.heap.size ≤ i → G i := fun i hi => hG i (Nat.le_trans A1.size hi)
 clear hl hr he hG
 obtain ⟨aL, haL⟩ : ∃ a, a = BT.ht l := ⟨_, rfl⟩
 obtain ⟨aR, haR⟩ : ∃ a, a = BT.ht (.node (.node ml me mr) re rr) := ⟨_, rfl⟩
 have H1 : Hid (Calls Tryz.prog 90 #[.pointer p] W fun e w' => e = .returned (.int .i64 (aL : Int)) ∧ w' = W) := by rw [haL]; exact height_any hl1
 have H2 : Hid (Calls Tryz.prog 90 #[.pointer q] W fun e w' => e = .returned (.int .i64 (aR : Int)) ∧ w' = W) := by rw [haR]; exact height_any hr1
 rw [← haL] at hs h1
 rw [← haR] at hs h1
 obtain ⟨bb, pa, pb, rfl, hbb, nb, heb, hta, htb⟩ := hr1
 obtain ⟨aM, haM⟩ : ∃ a, a = BT.ht (BT.node ml me mr) := ⟨_, rfl⟩
 obtain ⟨aS, haS⟩ : ∃ a, a = rr.ht := ⟨_, rfl⟩
 rw [← haM, ← haS] at h2
 have hbnd : aM < 549755813888 ∧ aS < 549755813888 := by
  have : BT.ht (.node (.node ml me mr) re rr) = 1 + max (BT.ht (BT.node ml me mr)) rr.ht := rfl
  omega
 have H3 : Hid (∀ wx, Below W.heap.size W wx → Calls Tryz.prog 90 #[.pointer pa] wx fun e w' => e = .returned (.int .i64 (aM : Int)) ∧ w' = wx) := fun wx b => by rw [haM]; exact height_any (hta.kept (KpG.of b))
 have H4 : Hid (∀ wx, Below W.heap.size W wx → Calls Tryz.prog 90 #[.pointer pb] wx fun e w' => e = .returned (.int .i64 (aS : Int)) ∧ w' = wx) := fun wx b => by rw [haS]; exact height_any (htb.kept (KpG.of b))
 obtain ⟨bm, pc, pd, rfl, hbm, nm, hem, htc, htd⟩ := hta
 have nm_ : ∀ {wx}, Below W.heap.size W wx → NBox wx bm me pc pd _ := fun b => (b.block bm nm.lt).trans nm
 have nb_ : ∀ {wx}, Below W.heap.size W wx → NBox wx bb re (some ⟨bm, 0, none⟩) pb _ := fun b => (b.block bb nb.lt).trans nb
 have KS : Hid (∀ wx, Below W.heap.size W wx → wx.cell? ⟨w.heap.size, 0, none⟩ = some e.vr ∧ wx.cell? ⟨w.heap.size, 1, none⟩ = some (.int .i64 e.fam) ∧ wx.cell? ⟨w.heap.size, 2, none⟩ = some e.vq ∧ wx.cell? ⟨w.heap.size, 3, none⟩ = some (.int .i64 e.ts) ∧ wx.cell? ⟨w.heap.size, 4, none⟩ = some (.int .i64 e.seq) ∧ wx.cell? ⟨w.heap.size, 5, none⟩ = some (.int .i64 e.kind) ∧ wx.cell? ⟨w.heap.size, 6, none⟩ = some e.vv ∧ wx.cell? ⟨bb, 0, none⟩ = some re.vr ∧ wx.cell? ⟨bb, 1, none⟩ = some (.int .i64 re.fam) ∧ wx.cell? ⟨bb, 2, none⟩ = some re.vq ∧ wx.cell? ⟨bb, 3, none⟩ = some (.int .i64 re.ts) ∧ wx.cell? ⟨bb, 4, none⟩ = some (.int .i64 re.seq) ∧ wx.cell? ⟨bb, 5, none⟩ = some (.int .i64 re.kind) ∧ wx.cell? ⟨bb, 6, none⟩ = some re.vv ∧ wx.cell? ⟨bb, 7, none⟩ = some (.pointer (some ⟨bm, 0, none⟩)) ∧ wx.cell? ⟨bb, 8, none⟩ = some (.pointer pb) ∧ wx.cell? ⟨bm, 0, none⟩ = some me.vr ∧ wx.cell? ⟨bm, 1, none⟩ = some (.int .i64 me.fam) ∧ wx.cell? ⟨bm, 2, none⟩ = some me.vq ∧ wx.cell? ⟨bm, 3, none⟩ = some (.int .i64 me.ts) ∧ wx.cell? ⟨bm, 4, none⟩ = some (.int .i64 me.seq) ∧ wx.cell? ⟨bm, 5, none⟩ = some (.int .i64 me.kind) ∧ wx.cell? ⟨bm, 6, none⟩ = some me.vv ∧ wx.cell? ⟨bm, 7, none⟩ = some (.pointer pc) ∧ wx.cell? ⟨bm, 8, none⟩ = some (.pointer pd)) := fun wx b => ⟨(bx.later b).vr, (bx.later b).fam, (bx.later b).vq, (bx.later b).ts, (bx.later b).seq, (bx.later b).kind, (bx.later b).vv, (NBox.cells (nb_ b)).1, (NBox.cells (nb_ b)).2.1, (NBox.cells (nb_ b)).2.2.1, (NBox.cells (nb_ b)).2.2.2.1, (NBox.cells (nb_ b)).2.2.2.2.1, (NBox.cells (nb_ b)).2.2.2.2.2.1, (NBox.cells (nb_ b)).2.2.2.2.2.2.1, (NBox.cells (nb_ b)).2.2.2.2.2.2.2.1, (NBox.cells (nb_ b)).2.2.2.2.2.2.2.2.1, (NBox.cells (nm_ b)).1, (NBox.cells (nm_ b)).2.1, (NBox.cells (nm_ b)).2.2.1, (NBox.cells (nm_ b)).2.2.2.1, (NBox.cells (nm_ b)).2.2.2.2.1, (NBox.cells (nm_ b)).2.2.2.2.2.1, (NBox.cells (nm_ b)).2.2.2.2.2.2.1, (NBox.cells (nm_ b)).2.2.2.2.2.2.2.1, (NBox.cells (nm_ b)).2.2.2.2.2.2.2.2.1⟩
 have hb4 : ml.ht < 549755813888 ∧ mr.ht < 549755813888 := by
  have e1 : BT.ht (.node ml me mr) = 1 + max ml.ht mr.ht := rfl
  omega
 have HJ1 : Hid (∀ wx, Below W.heap.size W wx → Calls Tryz.prog 81 #[.pointer p, .agg #[e.vr, .int .i64 e.fam, e.vq, .int .i64 e.ts, .int .i64 e.seq, .int .i64 e.kind, e.vv], .pointer pc] wx fun x w' => ∃ b, x = .returned (.pointer (some ⟨b, 0, none⟩)) ∧ IsT G w' (some ⟨b, 0, none⟩) (.node l e ml) ∧ Below wx.heap.size wx w') := fun wx b => by
  refine join_tree (l := l) (r := ml) (hl1.kept (KpG.of b)) (htc.kept (KpG.of b)) (he1.kept (KpG.of b)) ?_ (fun i hi => hG1 i (Nat.le_trans b.size hi))
  simp only [BT.ht] at *
  omega
 have HJ2 : Hid (∀ wx, Below W.heap.size W wx → Calls Tryz.prog 81 #[.pointer pd, .agg #[re.vr, .int .i64 re.fam, re.vq, .int .i64 re.ts, .int .i64 re.seq, .int .i64 re.kind, re.vv], .pointer pb] wx fun x w' => ∃ b, x = .returned (.pointer (some ⟨b, 0, none⟩)) ∧ IsT G w' (some ⟨b, 0, none⟩) (.node mr re rr) ∧ Below wx.heap.size wx w') := fun wx b => by
  refine join_tree (l := mr) (r := rr) (htd.kept (KpG.of b)) (htb.kept (KpG.of b)) (heb.kept (KpG.of b)) ?_ (fun i hi => hG1 i (Nat.le_trans b.size hi))
  simp only [BT.ht] at *
  omega
 have HJ3 : Hid (∀ wx b1 b2, Below W.heap.size W wx → IsT G wx (some ⟨b1, 0, none⟩) (.node l e ml) → IsT G wx (some ⟨b2, 0, none⟩) (.node mr re rr) → Calls Tryz.prog 81 #[.pointer (some ⟨b1, 0, none⟩), .agg #[me.vr, .int .i64 me.fam, me.vq, .int .i64 me.ts, .int .i64 me.seq, .int .i64 me.kind, me.vv], .pointer (some ⟨b2, 0, none⟩)] wx fun x w' => ∃ b, x = .returned (.pointer (some ⟨b, 0, none⟩)) ∧ IsT G w' (some ⟨b, 0, none⟩) (.node (.node l e ml) me (.node mr re rr)) ∧ Below wx.heap.size wx w') := fun wx b1 b2 b t1 t2 => by
  refine join_tree (l := (.node l e ml)) (r := (.node mr re rr)) t1 t2 (hem.kept (KpG.of b)) ?_ (fun i hi => hG1 i (Nat.le_trans b.size hi))
  simp only [BT.ht] at *
  omega
 have nl : (aL : Int) < 1099511627776 := by omega
 have nr : (aR : Int) < 1099511627776 := by omega
 have d1 : decide ((aR : Int) + 1 < (aL : Int)) = false := by simp; omega
 have d2 : decide ((aL : Int) + 1 < (aR : Int)) = true := by simp; omega
 have d3 : decide (aS < aM) = true := by simp; omega
 have D : Below W.heap.size W W := Below.refl _ _
 have DD : Below W.heap.size W W.drew := D.drew
 have D0 : Below W.heap.size W W.drew.drew := D.drew.drew
 obtain ⟨x7, x8⟩ : W.cell? ⟨bb, 7, none⟩ = some (.pointer (some ⟨bm, 0, none⟩)) ∧ W.cell? ⟨bb, 8, none⟩ = some (.pointer pb) := ⟨(NBox.cells nb).2.2.2.2.2.2.2.1, (NBox.cells nb).2.2.2.2.2.2.2.2.1⟩
 unfold EntD.cells
 clear bx h1 h2 hs hG1 he1 heb htc htd hbnd nb nb_ haL haR haM haS hl1 hem nm nm_ hb4 htb
 go_enter Tryz.func82, Tryz.ntmps82
 go_wp2_with fail
 rw [← HW.out]
 go_wp2_with (first | (go_at_call_of 90 (Value.pointer p); refine Calls.mono H1.out ?_; rintro e1 w1 ⟨rfl, rfl⟩) | (go_at_call_of 90 (Value.pointer (some ⟨bb, 0, none⟩)); refine Calls.mono H2.out ?_; rintro e1 w1 ⟨rfl, rfl⟩))
 go_region_held3 (fun wx => wx.cell? ⟨bb, 7, none⟩ = some (.pointer (some ⟨bm, 0, none⟩)) ∧ wx.cell? ⟨bb, 8, none⟩ = some (.pointer pb)) (first | exact ⟨x7, x8⟩) (first | (go_at_call_of 90 (Value.pointer (some ⟨bm, 0, none⟩)); refine Calls.mono (H3.out _ DD) ?_; rintro e1 w1 ⟨rfl, rfl⟩) | (go_at_call_of 90 (Value.pointer pb); refine Calls.mono (H4.out _ DD) ?_; rintro e1 w1 ⟨rfl, rfl⟩))

 go_wp2_with fail
 go_region_held3 (fun wx => wx.cell? ⟨w.heap.size, 0, none⟩ = some e.vr ∧ wx.cell? ⟨w.heap.size, 1, none⟩ = some (.int .i64 e.fam) ∧ wx.cell? ⟨w.heap.size, 2, none⟩ = some e.vq ∧ wx.cell? ⟨w.heap.size, 3, none⟩ = some (.int .i64 e.ts) ∧ wx.cell? ⟨w.heap.size, 4, none⟩ = some (.int .i64 e.seq) ∧ wx.cell? ⟨w.heap.size, 5, none⟩ = some (.int .i64 e.kind) ∧ wx.cell? ⟨w.heap.size, 6, none⟩ = some e.vv ∧ wx.cell? ⟨bb, 0, none⟩ = some re.vr ∧ wx.cell? ⟨bb, 1, none⟩ = some (.int .i64 re.fam) ∧ wx.cell? ⟨bb, 2, none⟩ = some re.vq ∧ wx.cell? ⟨bb, 3, none⟩ = some (.int .i64 re.ts) ∧ wx.cell? ⟨bb, 4, none⟩ = some (.int .i64 re.seq) ∧ wx.cell? ⟨bb, 5, none⟩ = some (.int .i64 re.kind) ∧ wx.cell? ⟨bb, 6, none⟩ = some re.vv ∧ wx.cell? ⟨bb, 7, none⟩ = some (.pointer (some ⟨bm, 0, none⟩)) ∧ wx.cell? ⟨bb, 8, none⟩ = some (.pointer pb) ∧ wx.cell? ⟨bm, 0, none⟩ = some me.vr ∧ wx.cell? ⟨bm, 1, none⟩ = some (.int .i64 me.fam) ∧ wx.cell? ⟨bm, 2, none⟩ = some me.vq ∧ wx.cell? ⟨bm, 3, none⟩ = some (.int .i64 me.ts) ∧ wx.cell? ⟨bm, 4, none⟩ = some (.int .i64 me.seq) ∧ wx.cell? ⟨bm, 5, none⟩ = some (.int .i64 me.kind) ∧ wx.cell? ⟨bm, 6, none⟩ = some me.vv ∧ wx.cell? ⟨bm, 7, none⟩ = some (.pointer pc) ∧ wx.cell? ⟨bm, 8, none⟩ = some (.pointer pd)) (first | exact KS.out _ D0 | exact KS.out _ D1 | exact KS.out _ D2 | exact KS.out _ D3) (first | (go_at_call_of 81 (Value.agg #[e.vr, Value.int IntKind.i64 e.fam, e.vq, Value.int IntKind.i64 e.ts, Value.int IntKind.i64 e.seq, Value.int IntKind.i64 e.kind, e.vv]); refine Calls.mono (HJ1.out _ D0) ?_; rintro e1 w5 ⟨b1, rfl, t1, k1⟩; have D1 := D0.trans (k1.mono D0.size)) | (go_at_call_of 81 (Value.agg #[re.vr, Value.int IntKind.i64 re.fam, re.vq, Value.int IntKind.i64 re.ts, Value.int IntKind.i64 re.seq, Value.int IntKind.i64 re.kind, re.vv]); refine Calls.mono (HJ2.out _ D1) ?_; rintro e1 w6 ⟨b2, rfl, t2, k2⟩; have D2 := D1.trans (k2.mono D1.size)) | (go_at_call_of 81 (Value.agg #[me.vr, Value.int IntKind.i64 me.fam, me.vq, Value.int IntKind.i64 me.ts, Value.int IntKind.i64 me.seq, Value.int IntKind.i64 me.kind, me.vv]); refine Calls.mono (HJ3.out _ _ _ D2 (t1.kept (KpG.of k2)) t2) ?_; rintro e1 w7 ⟨b3, rfl, t3, k3⟩; have D3 := D2.trans (k3.mono D2.size)))
 go_wp2
 go_ret
 exact ⟨_, rfl, t3, A1.trans (D3.mono A1.size)⟩

theorem balance_any {G : Nat → Prop} {w : World} {p q : Option Addr} {l r : BT} {e : EntD} (hl : IsT G w p l) (hr : IsT G w q r) (he : EOk G w e) (hs : l.ht < 549755813888 ∧ r.ht < 549755813888) (hG : ∀ i, w.heap.size ≤ i → G i) :
  Calls Tryz.prog 82 #[.pointer p, .agg e.cells, .pointer q] w fun x w' => ∃ b, x = .returned (.pointer (some ⟨b, 0, none⟩)) ∧ IsT G w' (some ⟨b, 0, none⟩) (balS l e r) ∧ Below w.heap.size w w' := by
 by_cases h1 : r.ht + 1 < l.ht
 ·unfold balS
  rw [if_pos h1]
  cases l with
  | leaf => simp [BT.ht] at h1
  | node ll le lr =>
   by_cases h2 : ll.ht < lr.ht
   ·simp only [if_pos h2]
    cases lr with
    | leaf => simp [BT.ht] at h2
    | node ml me mr => exact balance_LD hl hr he hs hG h1 h2
   ·simp only [if_neg h2]
    exact balance_LS hl hr he hs hG h1 h2
 ·by_cases h3 : l.ht + 1 < r.ht
  ·unfold balS
   rw [if_neg h1, if_pos h3]
   cases r with
   | leaf => simp [BT.ht] at h3
   | node rl re rr =>
    by_cases h2 : rr.ht < rl.ht
    ·simp only [if_pos h2]
     cases rl with
     | leaf => simp [BT.ht] at h2
     | node ml me mr => exact balance_RD hl hr he hs hG h3 h2
    ·simp only [if_neg h2]
     exact balance_RS hl hr he hs hG h3 h2
  ·rw [balS_even h1 h3]
   exact balance_even hl hr he hs hG h1 h3
end Go.Proofs.YtpabbnddeklpdaaGreat

namespace Go.Proofs.YtpabbnddeklpdaaGreat
open Go.RowKit
set_option linter.unusedVariables false

def ordV (p : Option Addr) : Value := .agg #[.pointer p, .func (.func 22) #[] #[]]
def OBox (w : World) (g : Nat) (p : Option Addr) : Prop := w.heap[g]? = some (.cells #[.pointer p, .func (.func 22) #[] #[]] 61 (0, 0))
theorem OBox.new (w : World) (p : Option Addr) : OBox (w.alloc (.cells #[.pointer p, .func (.func 22) #[] #[]] 61)) w.heap.size p := by
 show (w.heap.push _)[w.heap.size]? = some _
 simp
theorem OBox.later {w w' : World} {g : Nat} {p : Option Addr} (h : OBox w g p) (hb : Below w.heap.size w w') : OBox w' g p := by
 unfold OBox at *
 rw [hb.block g (Array.getElem?_eq_some_iff.1 h).1]; exact h
theorem OBox.c0 {w : World} {g : Nat} {p : Option Addr} (h : OBox w g p) : w.cell? ⟨g, 0, none⟩ = some (.pointer p) := by unfold OBox at h; simp [World.cell?, h]
theorem OBox.c1 {w : World} {g : Nat} {p : Option Addr} (h : OBox w g p) : w.cell? ⟨g, 1, none⟩ = some (.func (.func 22) #[] #[]) := by unfold OBox at h; simp [World.cell?, h]
theorem OBox.lt {w : World} {g : Nat} {p : Option Addr} (h : OBox w g p) : g < w.heap.size := (Array.getElem?_eq_some_iff.1 h).1
theorem OBox.fz {w : World} {g : Nat} {p : Option Addr} (h : OBox w g p) (i : Nat) : w.frozen? ⟨g, i, none⟩ = false := by unfold OBox at h; simp [World.frozen?, h]

def htM (v : Value) (w : World) : Nat :=
 match v with
 | .pointer (some a) => match w.cell? ⟨a.block, 9, none⟩ with
  | some (.int _ z) => z.toNat
  | _ => 0
 | _ => 0
theorem htM_eq {G : Nat → Prop} {w : World} {p : Option Addr} {T : BT} (h : IsT G w p T) : htM (.pointer p) w = T.ht := by
 cases T with
 | leaf => obtain rfl : p = none := h; rfl
 | node l e r =>
  obtain ⟨b, pl, pr, rfl, hb, hn, he, hl, hr⟩ := h
  have c := hn.cells.2.2.2.2.2.2.2.2.2
  simp only [htM, c, BT.ht]
  omega
theorem srt_left {l r : BT} {e x : EntD} (h : Srt (BT.node l e r).ord) (hx : compareS x e < 0) : Srt l.ord ∧ ((∃ y ∈ (BT.node l e r).ord, compareS x y = 0) ↔ ∃ y ∈ l.ord, compareS x y = 0) := by
 simp only [BT.ord, Srt, List.pairwise_append, List.pairwise_cons, List.mem_append, List.mem_cons] at *
 obtain ⟨hl, ⟨her, hr⟩, hlr⟩ := h
 refine ⟨hl, ⟨?_, fun ⟨y, hy, h0⟩ => ⟨y, .inl hy, h0⟩⟩⟩
 rintro ⟨y, hy | rfl | hy, h0⟩
 ·exact ⟨y, hy, h0⟩
 ·omega
 ·have := cmp_lt_trans hx (her y hy); omega
theorem srt_right {l r : BT} {e x : EntD} (h : Srt (BT.node l e r).ord) (hx : 0 < compareS x e) : Srt r.ord ∧ ((∃ y ∈ (BT.node l e r).ord, compareS x y = 0) ↔ ∃ y ∈ r.ord, compareS x y = 0) := by
 simp only [BT.ord, Srt, List.pairwise_append, List.pairwise_cons, List.mem_append, List.mem_cons] at *
 obtain ⟨hl, ⟨her, hr⟩, hlr⟩ := h
 refine ⟨hr, ⟨?_, fun ⟨y, hy, h0⟩ => ⟨y, .inr (.inr hy), h0⟩⟩⟩
 rintro ⟨y, hy | rfl | hy, h0⟩
 ·have := cmp_le_lt (a := x) (Int.le_of_lt hx) (hlr y hy e (.inl rfl)); omega
 ·omega
 ·exact ⟨y, hy, h0⟩

set_option maxRecDepth 100000 in
set_option maxHeartbeats 4000000 in
theorem has_any {G : Nat → Prop} {w : World} {p : Option Addr} {T : BT} {x : EntD} (hT : IsT G w p T) (hx : EntD.Ok w x) (hs : Srt T.ord) :
  Calls Tryz.prog 38 #[ordV p, .agg x.cells] w fun e w' => ∃ b : Bool, e = .returned (.bool b) ∧ (b = true ↔ ∃ y ∈ T.ord, compareS x y = 0) ∧ Below w.heap.size w w' := by
 unfold ordV
 have A1 := (Below.refl w.heap.size w).alloc (Nat.le_refl _) (.cells #[.pointer p, .func (.func 22) #[] #[]] 61)
 have A2 := A1.alloc A1.size (.cells x.cells 38)
 have bo := (OBox.new w p).later ((Below.refl (w.alloc (.cells #[.pointer p, .func (.func 22) #[] #[]] 61)).heap.size _).alloc (Nat.le_refl _) (.cells x.cells 38))
 have bx := EBox.new (w.alloc (.cells #[.pointer p, .func (.func 22) #[] #[]] 61)) x
 rw [World.size_alloc] at bx
 obtain ⟨W, hW⟩ : ∃ W, W = (w.alloc (.cells #[.pointer p, .func (.func 22) #[] #[]] 61)).alloc (.cells x.cells 38) := ⟨_, rfl⟩
 rw [← hW] at A2 bx bo
 have o0 := bo.c0
 have HW : Hid (W = _) := hW
 clear hW
 have HX : Hid (EntD.Ok W x ∧ EBox W (w.heap.size + 1) x ∧ IsT G W p T ∧ Below w.heap.size w W ∧ OBox W w.heap.size p ∧ Srt T.ord) := ⟨hx.later A2, bx, hT.kept (KpG.of A2), A2, bo, hs⟩
 unfold EntD.cells at HW
 unfold EntD.cells
 clear A1 A2 hx hT bx bo hs
 go_enter Tryz.func38, Tryz.ntmps38
 go_wp2_with fail
 rw [← HW.out]
 go_wp2
 go_loopw [5] (fun n wr => ∃ q U, n = .pointer q ∧ Hid (IsT G wr q U ∧ Srt U.ord ∧ ((∃ y ∈ T.ord, compareS x y = 0) ↔ ∃ y ∈ U.ord, compareS x y = 0) ∧ Below W.heap.size W wr)) (fun n wr => htM n wr)
 case atStart => exact ⟨p, T, rfl, HX.out.2.2.1, HX.out.2.2.2.2.2, Iff.rfl, Below.refl _ _⟩
 case round =>
  obtain ⟨q, U, rfl, HU⟩ := hrel
  have HM : Hid (htM (.pointer q) wr = U.ht) := htM_eq HU.out.1
  cases U with
  | leaf =>
   obtain rfl : q = none := HU.out.1
   go_wp2
   go_ret
   refine ⟨false, rfl, ?_, HX.out.2.2.2.1.trans (HU.out.2.2.2.mono HX.out.2.2.2.1.size)⟩
   rw [HU.out.2.2.1]
   simp [BT.ord]
  | node l e r =>
   obtain ⟨b, pl, pr, rfl, hb, hn, he, hl, hr⟩ := HU.out.1
   have D := HU.out.2.2.2
   have KS : Hid (∀ wx, Below wr.heap.size wr wx → wx.cell? ⟨w.heap.size, 1, none⟩ = some (.func (.func 22) #[] #[]) ∧ wx.cell? ⟨w.heap.size + 1, 0, none⟩ = some x.vr ∧ wx.cell? ⟨w.heap.size + 1, 1, none⟩ = some (.int .i64 x.fam) ∧ wx.cell? ⟨w.heap.size + 1, 2, none⟩ = some x.vq ∧ wx.cell? ⟨w.heap.size + 1, 3, none⟩ = some (.int .i64 x.ts) ∧ wx.cell? ⟨w.heap.size + 1, 4, none⟩ = some (.int .i64 x.seq) ∧ wx.cell? ⟨w.heap.size + 1, 5, none⟩ = some (.int .i64 x.kind) ∧ wx.cell? ⟨w.heap.size + 1, 6, none⟩ = some x.vv ∧ wx.cell? ⟨b, 0, none⟩ = some e.vr ∧ wx.cell? ⟨b, 1, none⟩ = some (.int .i64 e.fam) ∧ wx.cell? ⟨b, 2, none⟩ = some e.vq ∧ wx.cell? ⟨b, 3, none⟩ = some (.int .i64 e.ts) ∧ wx.cell? ⟨b, 4, none⟩ = some (.int .i64 e.seq) ∧ wx.cell? ⟨b, 5, none⟩ = some (.int .i64 e.kind) ∧ wx.cell? ⟨b, 6, none⟩ = some e.vv) := fun wx b => by
    have k1 := (HX.out.2.2.2.2.1.later D).later b
    have k2 := (HX.out.2.1.later D).later b
    have k3 := (show NBox wx _ _ _ _ _ from (b.block _ hn.lt).trans hn).cells
    exact ⟨k1.c1, k2.vr, k2.fam, k2.vq, k2.ts, k2.seq, k2.kind, k2.vv, k3.1, k3.2.1, k3.2.2.1, k3.2.2.2.1, k3.2.2.2.2.1, k3.2.2.2.2.2.1, k3.2.2.2.2.2.2.1⟩
   have HC : Hid (∀ wx, Below wr.heap.size wr wx → Calls Tryz.prog 22 #[.agg #[x.vr, .int .i64 x.fam, x.vq, .int .i64 x.ts, .int .i64 x.seq, .int .i64 x.kind, x.vv], .agg #[e.vr, .int .i64 e.fam, e.vq, .int .i64 e.ts, .int .i64 e.seq, .int .i64 e.kind, e.vv]] wx fun r w' => r = .returned (.int .i64 (compareS x e)) ∧ Below wx.heap.size wx w') := fun wx b => compare_any ((HX.out.1.later D).later b) (he.ok.later b)
   have HT : Hid (∀ wx, Below wr.heap.size wr wx → IsT G wx pl l ∧ IsT G wx pr r ∧ wx.cell? ⟨b, 7, none⟩ = some (.pointer pl) ∧ wx.cell? ⟨b, 8, none⟩ = some (.pointer pr)) := fun wx b => ⟨hl.kept (KpG.of b), hr.kept (KpG.of b), (show NBox wx _ _ _ _ _ from (b.block _ hn.lt).trans hn).cells.2.2.2.2.2.2.2.1, (show NBox wx _ _ _ _ _ from (b.block _ hn.lt).trans hn).cells.2.2.2.2.2.2.2.2.1⟩
   have D0 : Below wr.heap.size wr wr.drew := (Below.refl _ _).drew
   obtain ⟨cc, hcc⟩ : ∃ cc, cc = compareS x e := ⟨_, rfl⟩
   rw [← hcc] at HC
   have HCC : Hid (cc = compareS x e) := hcc
   clear hcc hn he hl hr D
   go_wp2_with fail
   go_region_held3 (fun wx => wx.cell? ⟨w.heap.size, 1, none⟩ = some (.func (.func 22) #[] #[]) ∧ wx.cell? ⟨w.heap.size + 1, 0, none⟩ = some x.vr ∧ wx.cell? ⟨w.heap.size + 1, 1, none⟩ = some (.int .i64 x.fam) ∧ wx.cell? ⟨w.heap.size + 1, 2, none⟩ = some x.vq ∧ wx.cell? ⟨w.heap.size + 1, 3, none⟩ = some (.int .i64 x.ts) ∧ wx.cell? ⟨w.heap.size + 1, 4, none⟩ = some (.int .i64 x.seq) ∧ wx.cell? ⟨w.heap.size + 1, 5, none⟩ = some (.int .i64 x.kind) ∧ wx.cell? ⟨w.heap.size + 1, 6, none⟩ = some x.vv ∧ wx.cell? ⟨b, 0, none⟩ = some e.vr ∧ wx.cell? ⟨b, 1, none⟩ = some (.int .i64 e.fam) ∧ wx.cell? ⟨b, 2, none⟩ = some e.vq ∧ wx.cell? ⟨b, 3, none⟩ = some (.int .i64 e.ts) ∧ wx.cell? ⟨b, 4, none⟩ = some (.int .i64 e.seq) ∧ wx.cell? ⟨b, 5, none⟩ = some (.int .i64 e.kind) ∧ wx.cell? ⟨b, 6, none⟩ = some e.vv) (first | exact KS.out _ D0 | exact KS.out _ D1) (first | (go_at_call 22; refine Calls.mono (HC.out _ D0) ?_; rintro e1 w1 ⟨rfl, hb1⟩; have D1 := D0.trans (hb1.mono D0.size)))
   obtain ⟨tl, tr, c7, c8⟩ := HT.out _ D1
   have HTT : Hid (IsT G w1 pl l ∧ IsT G w1 pr r) := ⟨tl, tr⟩
   clear tl tr
   by_cases h0 : cc = 0
   ·subst h0
    go_wp2
    go_ret
    have B1 := HX.out.2.2.2.1.trans ((HU.out.2.2.2.trans (D1.mono HU.out.2.2.2.size)).mono HX.out.2.2.2.1.size)
    refine ⟨true, rfl, ?_, B1⟩
    rw [HU.out.2.2.1]
    simp only [true_iff]
    exact ⟨e, by simp [BT.ord], HCC.out.symm⟩
   ·by_cases h1 : cc < 0
    ·go_wp2
     go_roundw
     case rel =>
      have k := srt_left HU.out.2.1 (by rw [← HCC.out]; exact h1)
      exact ⟨pl, l, rfl, HTT.out.1, k.1, HU.out.2.2.1.trans k.2, HU.out.2.2.2.trans (D1.mono HU.out.2.2.2.size)⟩
     case measure =>
      rw [HM.out, htM_eq HTT.out.1]
      simp only [BT.ht]; omega
    ·have h2 : 0 < cc := by omega
     go_wp2
     go_roundw
     case rel =>
      have k := srt_right HU.out.2.1 (by rw [← HCC.out]; exact h2)
      exact ⟨pr, r, rfl, HTT.out.2, k.1, HU.out.2.2.1.trans k.2, HU.out.2.2.2.trans (D1.mono HU.out.2.2.2.size)⟩
     case measure =>
      rw [HM.out, htM_eq HTT.out.2]
      simp only [BT.ht]; omega
end Go.Proofs.YtpabbnddeklpdaaGreat
