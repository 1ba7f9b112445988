import Derived.Test.YtpabbnddeklpdaaGreatK08
namespace Go.Proofs.YtpabbnddeklpdaaGreat
open Go.RowKit
set_option linter.unusedVariables false

theorem packL_len {w : World} {e : EntD} (hok : EntD.Ok w e) (hc : checkS e = 0) : (packL e).length ≤ 20000 := by
 have h1 := keyL_len hc
 have h2 : e.val.length ≤ 4096 := (check_facts hc).2.2.2.2.2.2.2.1
 unfold packL
 rw [List.length_append]
 have k1 : (bytesL (keyL e)).length ≤ (keyL e).length + 10 := bytesL_le _
 have k2 : (bytesL e.val).length ≤ e.val.length + 10 := bytesL_le _
 omega

theorem Apart.setT {t : Nat} {w w' : World} (h : Apart t w w') (i : Nat) (v : Value) : Apart t w (w'.setCell ⟨t, i, none⟩ v) :=
 ⟨h.os, h.tape, h.output, by rw [World.size_setCell]; exact h.size, fun k hk hne => (Below.heap_setCell w' ⟨t, i, none⟩ v k hne).trans (h.block k hk hne)⟩
theorem wrap_ok (z : Int) (h0 : 0 ≤ z) (h1 : z < 9223372036854775808) : IntKind.i64.wrap z = z := by
 have := i64_natM z z.toNat (by omega) (by omega)
 rw [this]; omega

set_option maxRecDepth 100000 in
set_option maxHeartbeats 4000000 in
theorem add_bad {w : World} {t : Nat} {e : EntD} (he : EntD.Ok w e) (hc : checkS e ≠ 0) :
  Calls Tryz.prog 19 #[.pointer (some ⟨t, 0, none⟩), .agg e.cells] w fun z w' => z = .returned (.int .i64 ((checkS e : Nat) : Int)) ∧ Below w.heap.size w w' := by
 have A1 := (Below.refl w.heap.size w).alloc (Nat.le_refl _) (.cells e.cells 38)
 have bx := EBox.new w e
 have HP : Hid (Calls Tryz.prog 37 #[.agg e.cells] (w.alloc (.cells e.cells 38)) _) := pack_bad (he.later A1) hc
 obtain ⟨c0, c1, c2, c3, c4, c5, c6⟩ := (⟨bx.vr, bx.fam, bx.vq, bx.ts, bx.seq, bx.kind, bx.vv⟩ : _ ∧ _ ∧ _ ∧ _ ∧ _ ∧ _ ∧ _)
 obtain ⟨C, hC⟩ : ∃ C, C = checkS e := ⟨_, rfl⟩
 rw [← hC] at HP hc ⊢
 clear hC
 have h0 : ((C : Int) != 0) = true := by simp; omega
 have h1 : ¬ ((C : Int) = 0) := by omega
 unfold EntD.cells at HP
 unfold EntD.cells
 clear bx he
 go_enter Tryz.func19, Tryz.ntmps19
 go_wp2_with (go_at_call 37; refine Calls.mono HP.out ?_; rintro z w1 ⟨rfl, hb1⟩)
 go_ret
 exact ⟨rfl, A1.trans (hb1.mono A1.size)⟩

set_option maxRecDepth 100000 in
set_option maxHeartbeats 4000000 in
theorem add_cold {w : World} {t : Nat} {p : Option Addr} {n k : Int} {e : EntD} (hb : TBox w t p n k true) (he : EntD.Ok w e) (hc : checkS e = 0) :
  Calls Tryz.prog 19 #[.pointer (some ⟨t, 0, none⟩), .agg e.cells] w fun z w' => z = .returned (.int .i64 81) ∧ Below w.heap.size w w' := by
 have A1 := (Below.refl w.heap.size w).alloc (Nat.le_refl _) (.cells e.cells 38)
 have bx := EBox.new w e
 have HP : Hid (Calls Tryz.prog 37 #[.agg e.cells] (w.alloc (.cells e.cells 38)) _) := pack_ok (he.later A1) hc
 obtain ⟨c0, c1, c2, c3, c4, c5, c6⟩ := (⟨bx.vr, bx.fam, bx.vq, bx.ts, bx.seq, bx.kind, bx.vv⟩ : _ ∧ _ ∧ _ ∧ _ ∧ _ ∧ _ ∧ _)
 have HT : Hid (∀ wx, Below w.heap.size w wx → wx.cell? ⟨t, 4, none⟩ = some (.bool true)) := fun wx b => (hb.later b).cells.2.2.2.2
 unfold EntD.cells at HP
 unfold EntD.cells
 clear bx he hc hb
 go_enter Tryz.func19, Tryz.ntmps19
 go_wp2_with (go_at_call 37; refine Calls.mono HP.out ?_; rintro z w1 ⟨a, m, c, rfl, o1, hb1⟩; have t4 := HT.out _ (A1.trans (hb1.mono A1.size)))
 go_ret
 exact ⟨rfl, A1.trans (hb1.mono A1.size)⟩

set_option maxRecDepth 100000 in
set_option maxHeartbeats 8000000 in
theorem add_there {G : Nat → Prop} {w : World} {t : Nat} {p : Option Addr} {T : BT} {n k : Int} {e : EntD} (hb : TBox w t p n k false) (hT : IsT G w p T) (hs : Srt T.ord) (he : EntD.Ok w e) (hc : checkS e = 0) (hd : ∃ y ∈ T.ord, compareS e y = 0) :
  Calls Tryz.prog 19 #[.pointer (some ⟨t, 0, none⟩), .agg e.cells] w fun z w' => z = .returned (.int .i64 80) ∧ Below w.heap.size w w' := by
 have A1 := (Below.refl w.heap.size w).alloc (Nat.le_refl _) (.cells e.cells 38)
 have bx := EBox.new w e
 have HP : Hid (Calls Tryz.prog 37 #[.agg e.cells] (w.alloc (.cells e.cells 38)) _) := pack_ok (he.later A1) hc
 obtain ⟨c0, c1, c2, c3, c4, c5, c6⟩ := (⟨bx.vr, bx.fam, bx.vq, bx.ts, bx.seq, bx.kind, bx.vv⟩ : _ ∧ _ ∧ _ ∧ _ ∧ _ ∧ _ ∧ _)
 obtain ⟨V, hV⟩ : ∃ V, V = w.alloc (.cells e.cells 38) := ⟨_, rfl⟩
 rw [← hV] at A1 bx HP c0 c1 c2 c3 c4 c5 c6
 have HV : Hid (V = _) := hV
 clear hV
 have KS : Hid (∀ wx, Below V.heap.size V wx → wx.cell? ⟨t, 0, none⟩ = some (.pointer p) ∧ wx.cell? ⟨t, 1, none⟩ = some (.func (.func 22) #[] #[]) ∧ wx.cell? ⟨w.heap.size, 0, none⟩ = some e.vr ∧ wx.cell? ⟨w.heap.size, 1, none⟩ = some (.int .i64 e.fam) ∧ wx.cell? ⟨w.heap.size, 2, none⟩ = some e.vq ∧ wx.cell? ⟨w.heap.size, 3, none⟩ = some (.int .i64 e.ts) ∧ wx.cell? ⟨w.heap.size, 4, none⟩ = some (.int .i64 e.seq) ∧ wx.cell? ⟨w.heap.size, 5, none⟩ = some (.int .i64 e.kind) ∧ wx.cell? ⟨w.heap.size, 6, none⟩ = some e.vv) := fun wx b => by
  have k1 := ((hb.later A1).later b).cells
  have k2 := bx.later b
  exact ⟨k1.1, k1.2.1, k2.vr, k2.fam, k2.vq, k2.ts, k2.seq, k2.kind, k2.vv⟩
 have HH : Hid (∀ wx, Below V.heap.size V wx → Calls Tryz.prog 38 #[.agg #[.pointer p, .func (.func 22) #[] #[]], .agg #[e.vr, .int .i64 e.fam, e.vq, .int .i64 e.ts, .int .i64 e.seq, .int .i64 e.kind, e.vv]] wx fun z w' => z = .returned (.bool true) ∧ Below wx.heap.size wx w') := fun wx b => by
  refine (has_any (hT.kept (KpG.of (A1.trans (b.mono A1.size)))) (he.later (A1.trans (b.mono A1.size))) hs).mono ?_
  rintro z w' ⟨q, rfl, hq, hb'⟩
  refine ⟨?_, hb'⟩
  have : q = true := by exact hq.2 hd
  rw [this]
 have HT : Hid (∀ wx, Below V.heap.size V wx → wx.cell? ⟨t, 4, none⟩ = some (.bool false)) := fun wx b => ((hb.later A1).later b).cells.2.2.2.2
 
 unfold EntD.cells at HP HV
 unfold EntD.cells
 clear bx he hc hb hT hs hd
 go_enter Tryz.func19, Tryz.ntmps19
 go_wp2_with fail
 rw [← HV.out]
 go_wp2_with (go_at_call 37; refine Calls.mono HP.out ?_; rintro z w1 ⟨a, m, c, rfl, o1, hb1⟩; have t4 := HT.out _ hb1)
 have D0 : Below V.heap.size V w1.drew := hb1.drew
 go_region_held3 (fun wx => wx.cell? ⟨t, 0, none⟩ = some (.pointer p) ∧ wx.cell? ⟨t, 1, none⟩ = some (.func (.func 22) #[] #[]) ∧ wx.cell? ⟨w.heap.size, 0, none⟩ = some e.vr ∧ wx.cell? ⟨w.heap.size, 1, none⟩ = some (.int .i64 e.fam) ∧ wx.cell? ⟨w.heap.size, 2, none⟩ = some e.vq ∧ wx.cell? ⟨w.heap.size, 3, none⟩ = some (.int .i64 e.ts) ∧ wx.cell? ⟨w.heap.size, 4, none⟩ = some (.int .i64 e.seq) ∧ wx.cell? ⟨w.heap.size, 5, none⟩ = some (.int .i64 e.kind) ∧ wx.cell? ⟨w.heap.size, 6, none⟩ = some e.vv) (first | exact KS.out _ D0 | exact KS.out _ D1) (first | (go_at_call 38; refine Calls.mono (HH.out _ D0) ?_; rintro z w2 ⟨rfl, hb2⟩; have D1 := D0.trans (hb2.mono D0.size)))
 go_wp2_with fail
 go_ret
 exact ⟨rfl, A1.trans (D1.mono A1.size)⟩

set_option maxRecDepth 100000 in
set_option maxHeartbeats 8000000 in
theorem add_ok {G : Nat → Prop} {w : World} {t : Nat} {p : Option Addr} {T : BT} {n k : Int} {e : EntD} (hb : TBox w t p n k false) (hT : IsT G w p T) (hs : Srt T.ord) (he : EntD.Ok w e) (hc : checkS e = 0) (hd : ¬ ∃ y ∈ T.ord, compareS e y = 0) (hne : ¬ G t) (hG : ∀ i, w.heap.size ≤ i → G i) (hsz : T.ord.length < 274877906000) (hn : 0 ≤ n ∧ n < 1099511627776) (hk : 0 ≤ k ∧ k < 1152921504606846976) :
  Calls Tryz.prog 19 #[.pointer (some ⟨t, 0, none⟩), .agg e.cells] w fun z w' => z = .returned (.int .i64 0) ∧ Apart t w w' ∧ ∃ p' x, EntD.Same x e ∧ TBox w' t p' (n + 1) (k + ((packL e).length : Nat)) false ∧ IsT G w' p' (hangS x T) := by
 have A1 := (Below.refl w.heap.size w).alloc (Nat.le_refl _) (.cells e.cells 38)
 have bx := EBox.new w e
 have HP : Hid (Calls Tryz.prog 37 #[.agg e.cells] (w.alloc (.cells e.cells 38)) _) := pack_ok (he.later A1) hc
 obtain ⟨c0, c1, c2, c3, c4, c5, c6⟩ := (⟨bx.vr, bx.fam, bx.vq, bx.ts, bx.seq, bx.kind, bx.vv⟩ : _ ∧ _ ∧ _ ∧ _ ∧ _ ∧ _ ∧ _)
 obtain ⟨V, hV⟩ : ∃ V, V = w.alloc (.cells e.cells 38) := ⟨_, rfl⟩
 rw [← hV] at A1 bx HP c0 c1 c2 c3 c4 c5 c6
 have HV : Hid (V = _) := hV
 clear hV
 have KS : Hid (∀ wx, Below V.heap.size V wx → wx.cell? ⟨t, 0, none⟩ = some (.pointer p) ∧ wx.cell? ⟨t, 1, none⟩ = some (.func (.func 22) #[] #[]) ∧ wx.cell? ⟨w.heap.size, 0, none⟩ = some e.vr ∧ wx.cell? ⟨w.heap.size, 1, none⟩ = some (.int .i64 e.fam) ∧ wx.cell? ⟨w.heap.size, 2, none⟩ = some e.vq ∧ wx.cell? ⟨w.heap.size, 3, none⟩ = some (.int .i64 e.ts) ∧ wx.cell? ⟨w.heap.size, 4, none⟩ = some (.int .i64 e.seq) ∧ wx.cell? ⟨w.heap.size, 5, none⟩ = some (.int .i64 e.kind) ∧ wx.cell? ⟨w.heap.size, 6, none⟩ = some e.vv) := fun wx b => by
  have k1 := ((hb.later A1).later b).cells
  have k2 := bx.later b
  exact ⟨k1.1, k1.2.1, k2.vr, k2.fam, k2.vq, k2.ts, k2.seq, k2.kind, k2.vv⟩
 have HH : Hid (∀ wx, Below V.heap.size V wx → Calls Tryz.prog 38 #[.agg #[.pointer p, .func (.func 22) #[] #[]], .agg #[e.vr, .int .i64 e.fam, e.vq, .int .i64 e.ts, .int .i64 e.seq, .int .i64 e.kind, e.vv]] wx fun z w' => z = .returned (.bool false) ∧ Below wx.heap.size wx w') := fun wx b => by
  refine (has_any (hT.kept (KpG.of (A1.trans (b.mono A1.size)))) (he.later (A1.trans (b.mono A1.size))) hs).mono ?_
  rintro z w' ⟨q, rfl, hq, hb'⟩
  refine ⟨?_, hb'⟩
  have : q = false := by (cases q; rfl; exact absurd (hq.1 rfl) hd)
  rw [this]
 have HT : Hid (∀ wx, Below V.heap.size V wx → wx.cell? ⟨t, 4, none⟩ = some (.bool false)) := fun wx b => ((hb.later A1).later b).cells.2.2.2.2
 have HX : Hid (∀ wx, Below V.heap.size V wx → Calls Tryz.prog 24 #[.agg #[e.vr, .int .i64 e.fam, e.vq, .int .i64 e.ts, .int .i64 e.seq, .int .i64 e.kind, e.vv]] wx fun z w' => ∃ x : EntD, z = .returned (.agg x.cells) ∧ EntD.Same x e ∧ EOk (fun i => wx.heap.size ≤ i) w' x ∧ Below wx.heap.size wx w') := fun wx b => by
  have f := check_facts hc
  refine copyOf_any (he.later (A1.trans (b.mono A1.size))) ⟨?_, ?_, ?_⟩ <;> omega
 have HWI : Hid (∀ wx x, Below V.heap.size V wx → EOk (fun i => V.heap.size ≤ i) wx x → Calls Tryz.prog 39 #[.agg #[.pointer p, .func (.func 22) #[] #[]], .agg #[x.vr, .int .i64 x.fam, x.vq, .int .i64 x.ts, .int .i64 x.seq, .int .i64 x.kind, x.vv]] wx fun z w' => ∃ b, z = .returned (.agg #[.pointer (some ⟨b, 0, none⟩), .func (.func 22) #[] #[]]) ∧ IsT G w' (some ⟨b, 0, none⟩) (hangS x T) ∧ Below wx.heap.size wx w') := fun wx x b hx => with_any (hT.kept (KpG.of (A1.trans (b.mono A1.size)))) (hx.mono (fun i hi => hG i (Nat.le_trans A1.size hi))) (by omega) (fun i hi => hG i (by have := A1.size; have := b.size; omega))
 have HN : Hid (¬ G t ∧ t < w.heap.size ∧ TBox w t p n k false ∧ (packL e).length ≤ 20000) := ⟨hne, hb.lt, hb, packL_len he hc⟩
 unfold EntD.cells at HP HV
 unfold EntD.cells
 clear bx he hc hb hT hs hd hG hne
 go_enter Tryz.func19, Tryz.ntmps19
 go_wp2_with fail
 rw [← HV.out]
 go_wp2_with (go_at_call 37; refine Calls.mono HP.out ?_; rintro z w1 ⟨a, m, c, rfl, o1, hb1⟩; have t4 := HT.out _ hb1)
 have D0 : Below V.heap.size V w1.drew := hb1.drew
 go_region_held3 (fun wx => wx.cell? ⟨t, 0, none⟩ = some (.pointer p) ∧ wx.cell? ⟨t, 1, none⟩ = some (.func (.func 22) #[] #[]) ∧ wx.cell? ⟨w.heap.size, 0, none⟩ = some e.vr ∧ wx.cell? ⟨w.heap.size, 1, none⟩ = some (.int .i64 e.fam) ∧ wx.cell? ⟨w.heap.size, 2, none⟩ = some e.vq ∧ wx.cell? ⟨w.heap.size, 3, none⟩ = some (.int .i64 e.ts) ∧ wx.cell? ⟨w.heap.size, 4, none⟩ = some (.int .i64 e.seq) ∧ wx.cell? ⟨w.heap.size, 5, none⟩ = some (.int .i64 e.kind) ∧ wx.cell? ⟨w.heap.size, 6, none⟩ = some e.vv) (first | exact KS.out _ D0 | exact KS.out _ D1) (first | (go_at_call 38; refine Calls.mono (HH.out _ D0) ?_; rintro z w2 ⟨rfl, hb2⟩; have D1 := D0.trans (hb2.mono D0.size)))
 go_wp2_with fail
 obtain ⟨DD, hDD⟩ : ∃ DD : Below V.heap.size V w2.drew, True := ⟨D1.drew, trivial⟩
 refine wp_region_noPanic ?_
 refine wp_region_anyE (S := fun wx => wx.cell? ⟨t, 0, none⟩ = some (.pointer p) ∧ wx.cell? ⟨t, 1, none⟩ = some (.func (.func 22) #[] #[]) ∧ wx.cell? ⟨w.heap.size, 0, none⟩ = some e.vr ∧ wx.cell? ⟨w.heap.size, 1, none⟩ = some (.int .i64 e.fam) ∧ wx.cell? ⟨w.heap.size, 2, none⟩ = some e.vq ∧ wx.cell? ⟨w.heap.size, 3, none⟩ = some (.int .i64 e.ts) ∧ wx.cell? ⟨w.heap.size, 4, none⟩ = some (.int .i64 e.seq) ∧ wx.cell? ⟨w.heap.size, 5, none⟩ = some (.int .i64 e.kind) ∧ wx.cell? ⟨w.heap.size, 6, none⟩ = some e.vv) (E := fun j => decide (j < 8)) (by kernel_rfl) ?_
 have hS := KS.out _ DD
 refine AnyE.take (i := 0) (.pointer (some ⟨t, 0, none⟩)) rfl (by kernel_rfl) (by kernel_rfl) (by kernel_rfl) (by kernel_rfl) (fun _ _ _ h => h) (.inl ⟨by rfl, fun wq hq => by go_simp⟩) hS ?_
 refine AnyE.take (i := 1) (.pointer (some ⟨t, 0, none⟩)) rfl (by kernel_rfl) (by kernel_rfl) (by kernel_rfl) (by kernel_rfl) (fun _ _ _ h => h) (.inl ⟨by rfl, fun wq hq => by go_simp⟩) hS ?_
 refine AnyE.take (i := 2) (.pointer (some ⟨t, 0, none⟩)) rfl (by kernel_rfl) (by kernel_rfl) (by kernel_rfl) (by kernel_rfl) (fun _ _ _ h => h) (.inl ⟨by rfl, fun wq hq => by go_simp⟩) hS ?_
 refine AnyE.take (i := 3) (.pointer (some ⟨t, 0, none⟩)) rfl (by kernel_rfl) (by kernel_rfl) (by kernel_rfl) (by kernel_rfl) (fun _ _ _ h => h) (.inl ⟨by rfl, fun wq hq => by go_simp⟩) hS ?_
 refine AnyE.take (i := 4) (.agg #[.pointer p, .func (.func 22) #[] #[]]) rfl (by kernel_rfl) (by kernel_rfl) (by kernel_rfl) (by kernel_rfl) (fun _ _ _ h => h) (.inl ⟨by rfl, fun wq hq => by obtain ⟨q0, q1, d0, d1, d2, d3, d4, d5, d6⟩ := hq; go_simp⟩) hS ?_
 refine AnyE.take (i := 5) (.agg #[e.vr, .int .i64 e.fam, e.vq, .int .i64 e.ts, .int .i64 e.seq, .int .i64 e.kind, e.vv]) rfl (by kernel_rfl) (by kernel_rfl) (by kernel_rfl) (by kernel_rfl) (fun _ _ _ h => h) (.inl ⟨by rfl, fun wq hq => by obtain ⟨q0, q1, d0, d1, d2, d3, d4, d5, d6⟩ := hq; go_simp⟩) hS ?_
 show AnyE _ _ _ _ _ _ 5 #[true, true, true, true, true, true, false, false, false, false, false] ⟨#[.pointer (some ⟨t, 0, none⟩), .agg #[e.vr, .int .i64 e.fam, e.vq, .int .i64 e.ts, .int .i64 e.seq, .int .i64 e.kind, e.vv], undef, .pointer (some ⟨w.heap.size, 0, none⟩), .int .i64 0, .slice a m c, .int .i64 0, .tuple #[.slice a m c, .int .i64 0], .agg #[e.vr, .int .i64 e.fam, e.vq, .int .i64 e.ts, .int .i64 e.seq, .int .i64 e.kind, e.vv], .tuple #[.slice a m c, .int .i64 0], .slice a m c, .int .i64 0, .bool false, .int .i64 0, .bool false, undef, .bool false, .pointer (some ⟨t, 0, none⟩), .pointer (some ⟨t, 0, none⟩), .pointer (some ⟨t, 4, none⟩), .bool false, .bool false, .pointer (some ⟨t, 0, none⟩), .pointer (some ⟨t, 0, none⟩), .pointer (some ⟨t, 0, none⟩), .agg #[.pointer p, .func (.func 22) #[] #[]], .agg #[e.vr, .int .i64 e.fam, e.vq, .int .i64 e.ts, .int .i64 e.seq, .int .i64 e.kind, e.vv], .bool false, .pointer (some ⟨t, 0, none⟩), .pointer (some ⟨t, 0, none⟩), .pointer (some ⟨t, 0, none⟩), .pointer (some ⟨t, 0, none⟩), .agg #[.pointer p, .func (.func 22) #[] #[]], .agg #[e.vr, .int .i64 e.fam, e.vq, .int .i64 e.ts, .int .i64 e.seq, .int .i64 e.kind, e.vv], undef, undef, undef, undef, undef, undef, undef, undef, undef, undef, undef, undef, undef, undef, undef, undef, undef, undef, undef, undef], []⟩ _
 refine AnyE.one (i := 6) rfl (by kernel_rfl) (by rfl) (fun K6 hK6 => ?_)
 go_simp
 refine Calls.mono (HX.out _ DD) ?_
 rintro z3 w3 ⟨x, rfl, hsx, hox, hb3⟩
 have D3 := DD.trans (hb3.mono DD.size)
 refine hK6.out _ _ ⟨fun _ => KS.out _ D3, ?_⟩
 clear hK6
 show AnyE _ _ _ _ _ _ 4 #[true, true, true, true, true, true, true, false, false, false, false] ⟨#[.pointer (some ⟨t, 0, none⟩), .agg #[e.vr, .int .i64 e.fam, e.vq, .int .i64 e.ts, .int .i64 e.seq, .int .i64 e.kind, e.vv], undef, .pointer (some ⟨w.heap.size, 0, none⟩), .int .i64 0, .slice a m c, .int .i64 0, .tuple #[.slice a m c, .int .i64 0], .agg #[e.vr, .int .i64 e.fam, e.vq, .int .i64 e.ts, .int .i64 e.seq, .int .i64 e.kind, e.vv], .tuple #[.slice a m c, .int .i64 0], .slice a m c, .int .i64 0, .bool false, .int .i64 0, .bool false, undef, .bool false, .pointer (some ⟨t, 0, none⟩), .pointer (some ⟨t, 0, none⟩), .pointer (some ⟨t, 4, none⟩), .bool false, .bool false, .pointer (some ⟨t, 0, none⟩), .pointer (some ⟨t, 0, none⟩), .pointer (some ⟨t, 0, none⟩), .agg #[.pointer p, .func (.func 22) #[] #[]], .agg #[e.vr, .int .i64 e.fam, e.vq, .int .i64 e.ts, .int .i64 e.seq, .int .i64 e.kind, e.vv], .bool false, .pointer (some ⟨t, 0, none⟩), .pointer (some ⟨t, 0, none⟩), .pointer (some ⟨t, 0, none⟩), .pointer (some ⟨t, 0, none⟩), .agg #[.pointer p, .func (.func 22) #[] #[]], .agg #[e.vr, .int .i64 e.fam, e.vq, .int .i64 e.ts, .int .i64 e.seq, .int .i64 e.kind, e.vv], .agg #[x.vr, .int .i64 x.fam, x.vq, .int .i64 x.ts, .int .i64 x.seq, .int .i64 x.kind, x.vv], undef, undef, undef, undef, undef, undef, undef, undef, undef, undef, undef, undef, undef, undef, undef, undef, undef, undef, undef], []⟩ _
 refine AnyE.one (i := 7) rfl (by kernel_rfl) (by rfl) (fun K7 hK7 => ?_)
 go_simp
 refine Calls.mono (HWI.out _ x D3 (hox.mono (fun i hi => Nat.le_trans DD.size hi))) ?_
 rintro z4 w4 ⟨b, rfl, ht4, hb4⟩
 have D4 := D3.trans (hb4.mono D3.size)
 refine hK7.out _ _ ⟨fun _ => KS.out _ D4, ?_⟩
 clear hK7
 have TB4 := (HN.out.2.2.1.later A1).later D4
 have t0 := TB4.cells.1
 have t1 := TB4.cells.2.1
 have f0 := TB4.fz 0
 have f1 := TB4.fz 1
 show AnyE _ _ _ _ _ _ 3 #[true, true, true, true, true, true, true, true, false, false, false] ⟨#[.pointer (some ⟨t, 0, none⟩), .agg #[e.vr, .int .i64 e.fam, e.vq, .int .i64 e.ts, .int .i64 e.seq, .int .i64 e.kind, e.vv], undef, .pointer (some ⟨w.heap.size, 0, none⟩), .int .i64 0, .slice a m c, .int .i64 0, .tuple #[.slice a m c, .int .i64 0], .agg #[e.vr, .int .i64 e.fam, e.vq, .int .i64 e.ts, .int .i64 e.seq, .int .i64 e.kind, e.vv], .tuple #[.slice a m c, .int .i64 0], .slice a m c, .int .i64 0, .bool false, .int .i64 0, .bool false, undef, .bool false, .pointer (some ⟨t, 0, none⟩), .pointer (some ⟨t, 0, none⟩), .pointer (some ⟨t, 4, none⟩), .bool false, .bool false, .pointer (some ⟨t, 0, none⟩), .pointer (some ⟨t, 0, none⟩), .pointer (some ⟨t, 0, none⟩), .agg #[.pointer p, .func (.func 22) #[] #[]], .agg #[e.vr, .int .i64 e.fam, e.vq, .int .i64 e.ts, .int .i64 e.seq, .int .i64 e.kind, e.vv], .bool false, .pointer (some ⟨t, 0, none⟩), .pointer (some ⟨t, 0, none⟩), .pointer (some ⟨t, 0, none⟩), .pointer (some ⟨t, 0, none⟩), .agg #[.pointer p, .func (.func 22) #[] #[]], .agg #[e.vr, .int .i64 e.fam, e.vq, .int .i64 e.ts, .int .i64 e.seq, .int .i64 e.kind, e.vv], .agg #[x.vr, .int .i64 x.fam, x.vq, .int .i64 x.ts, .int .i64 x.seq, .int .i64 x.kind, x.vv], .agg #[.pointer (some ⟨b, 0, none⟩), .func (.func 22) #[] #[]], undef, undef, undef, undef, undef, undef, undef, undef, undef, undef, undef, undef, undef, undef, undef, undef, undef, undef], []⟩ _
 refine AnyE.one (i := 8) rfl (by kernel_rfl) (by rfl) (fun K hK => ?_)
 go_simp
 refine hK.out _ _ ⟨fun h => (by cases h), ?_⟩
 clear hK
 show AnyE _ _ _ _ _ _ 2 #[true, true, true, true, true, true, true, true, true, false, false] ⟨#[.pointer (some ⟨t, 0, none⟩), .agg #[e.vr, .int .i64 e.fam, e.vq, .int .i64 e.ts, .int .i64 e.seq, .int .i64 e.kind, e.vv], undef, .pointer (some ⟨w.heap.size, 0, none⟩), .int .i64 0, .slice a m c, .int .i64 0, .tuple #[.slice a m c, .int .i64 0], .agg #[e.vr, .int .i64 e.fam, e.vq, .int .i64 e.ts, .int .i64 e.seq, .int .i64 e.kind, e.vv], .tuple #[.slice a m c, .int .i64 0], .slice a m c, .int .i64 0, .bool false, .int .i64 0, .bool false, undef, .bool false, .pointer (some ⟨t, 0, none⟩), .pointer (some ⟨t, 0, none⟩), .pointer (some ⟨t, 4, none⟩), .bool false, .bool false, .pointer (some ⟨t, 0, none⟩), .pointer (some ⟨t, 0, none⟩), .pointer (some ⟨t, 0, none⟩), .agg #[.pointer p, .func (.func 22) #[] #[]], .agg #[e.vr, .int .i64 e.fam, e.vq, .int .i64 e.ts, .int .i64 e.seq, .int .i64 e.kind, e.vv], .bool false, .pointer (some ⟨t, 0, none⟩), .pointer (some ⟨t, 0, none⟩), .pointer (some ⟨t, 0, none⟩), .pointer (some ⟨t, 0, none⟩), .agg #[.pointer p, .func (.func 22) #[] #[]], .agg #[e.vr, .int .i64 e.fam, e.vq, .int .i64 e.ts, .int .i64 e.seq, .int .i64 e.kind, e.vv], .agg #[x.vr, .int .i64 x.fam, x.vq, .int .i64 x.ts, .int .i64 x.seq, .int .i64 x.kind, x.vv], .agg #[.pointer (some ⟨b, 0, none⟩), .func (.func 22) #[] #[]], .pointer (some ⟨t, 0, none⟩), undef, undef, undef, undef, undef, undef, undef, undef, undef, undef, undef, undef, undef, undef, undef, undef, undef], []⟩ w4
 refine AnyE.one (i := 9) rfl (by kernel_rfl) (by rfl) (fun K hK => ?_)
 go_simp
 refine hK.out _ _ ⟨fun h => (by cases h), ?_⟩
 clear hK
 show AnyE _ _ _ _ _ _ 1 #[true, true, true, true, true, true, true, true, true, true, false] ⟨#[.pointer (some ⟨t, 0, none⟩), .agg #[e.vr, .int .i64 e.fam, e.vq, .int .i64 e.ts, .int .i64 e.seq, .int .i64 e.kind, e.vv], undef, .pointer (some ⟨w.heap.size, 0, none⟩), .int .i64 0, .slice a m c, .int .i64 0, .tuple #[.slice a m c, .int .i64 0], .agg #[e.vr, .int .i64 e.fam, e.vq, .int .i64 e.ts, .int .i64 e.seq, .int .i64 e.kind, e.vv], .tuple #[.slice a m c, .int .i64 0], .slice a m c, .int .i64 0, .bool false, .int .i64 0, .bool false, undef, .bool false, .pointer (some ⟨t, 0, none⟩), .pointer (some ⟨t, 0, none⟩), .pointer (some ⟨t, 4, none⟩), .bool false, .bool false, .pointer (some ⟨t, 0, none⟩), .pointer (some ⟨t, 0, none⟩), .pointer (some ⟨t, 0, none⟩), .agg #[.pointer p, .func (.func 22) #[] #[]], .agg #[e.vr, .int .i64 e.fam, e.vq, .int .i64 e.ts, .int .i64 e.seq, .int .i64 e.kind, e.vv], .bool false, .pointer (some ⟨t, 0, none⟩), .pointer (some ⟨t, 0, none⟩), .pointer (some ⟨t, 0, none⟩), .pointer (some ⟨t, 0, none⟩), .agg #[.pointer p, .func (.func 22) #[] #[]], .agg #[e.vr, .int .i64 e.fam, e.vq, .int .i64 e.ts, .int .i64 e.seq, .int .i64 e.kind, e.vv], .agg #[x.vr, .int .i64 x.fam, x.vq, .int .i64 x.ts, .int .i64 x.seq, .int .i64 x.kind, x.vv], .agg #[.pointer (some ⟨b, 0, none⟩), .func (.func 22) #[] #[]], .pointer (some ⟨t, 0, none⟩), .pointer (some ⟨t, 0, none⟩), undef, undef, undef, undef, undef, undef, undef, undef, undef, undef, undef, undef, undef, undef, undef, undef], []⟩ w4
 refine AnyE.one (i := 10) rfl (by kernel_rfl) (by rfl) (fun K hK => ?_)
 go_simp
 refine hK.out _ _ ⟨fun h => (by cases h), ?_⟩
 clear hK
 show AnyE _ _ _ _ _ _ 0 #[true, true, true, true, true, true, true, true, true, true, true] ⟨#[.pointer (some ⟨t, 0, none⟩), .agg #[e.vr, .int .i64 e.fam, e.vq, .int .i64 e.ts, .int .i64 e.seq, .int .i64 e.kind, e.vv], undef, .pointer (some ⟨w.heap.size, 0, none⟩), .int .i64 0, .slice a m c, .int .i64 0, .tuple #[.slice a m c, .int .i64 0], .agg #[e.vr, .int .i64 e.fam, e.vq, .int .i64 e.ts, .int .i64 e.seq, .int .i64 e.kind, e.vv], .tuple #[.slice a m c, .int .i64 0], .slice a m c, .int .i64 0, .bool false, .int .i64 0, .bool false, undef, .bool false, .pointer (some ⟨t, 0, none⟩), .pointer (some ⟨t, 0, none⟩), .pointer (some ⟨t, 4, none⟩), .bool false, .bool false, .pointer (some ⟨t, 0, none⟩), .pointer (some ⟨t, 0, none⟩), .pointer (some ⟨t, 0, none⟩), .agg #[.pointer p, .func (.func 22) #[] #[]], .agg #[e.vr, .int .i64 e.fam, e.vq, .int .i64 e.ts, .int .i64 e.seq, .int .i64 e.kind, e.vv], .bool false, .pointer (some ⟨t, 0, none⟩), .pointer (some ⟨t, 0, none⟩), .pointer (some ⟨t, 0, none⟩), .pointer (some ⟨t, 0, none⟩), .agg #[.pointer p, .func (.func 22) #[] #[]], .agg #[e.vr, .int .i64 e.fam, e.vq, .int .i64 e.ts, .int .i64 e.seq, .int .i64 e.kind, e.vv], .agg #[x.vr, .int .i64 x.fam, x.vq, .int .i64 x.ts, .int .i64 x.seq, .int .i64 x.kind, x.vv], .agg #[.pointer (some ⟨b, 0, none⟩), .func (.func 22) #[] #[]], .pointer (some ⟨t, 0, none⟩), .pointer (some ⟨t, 0, none⟩), undef, undef, undef, undef, undef, undef, undef, undef, undef, undef, undef, undef, undef, undef, undef, undef], []⟩ ((w4.setCell ⟨t, 0, none⟩ (.pointer (some ⟨b, 0, none⟩))).setCell ⟨t, 1, none⟩ (.func (.func 22) #[] #[]))
 refine AnyE.done (by kernel_rfl) (NoPanic.normal ?_) _
 have TB5 := (TB4.set0 (some ⟨b, 0, none⟩)).set1
 have HT5 : Hid (IsT G ((w4.setCell ⟨t, 0, none⟩ (.pointer (some ⟨b, 0, none⟩))).setCell ⟨t, 1, none⟩ (.func (.func 22) #[] #[])) (some ⟨b, 0, none⟩) (hangS x T)) := ht4.kept (((KpG.refl G w4).setCell HN.out.1 0 _).setCell HN.out.1 1 _)
 have HA5 : Hid (Apart t w ((w4.setCell ⟨t, 0, none⟩ (.pointer (some ⟨b, 0, none⟩))).setCell ⟨t, 1, none⟩ (.func (.func 22) #[] #[]))) := ((Apart.of (A1.trans (D4.mono A1.size))).setT 0 _).setT 1 _
 generalize ((w4.setCell ⟨t, 0, none⟩ (.pointer (some ⟨b, 0, none⟩))).setCell ⟨t, 1, none⟩ (.func (.func 22) #[] #[])) = W5 at *
 have HTB : Hid (TBox W5 t (some ⟨b, 0, none⟩) n k false) := TB5
 have u2 := TB5.cells.2.2.1
 have u3 := TB5.cells.2.2.2.1
 have g2 := TB5.fz 2
 have g3 := TB5.fz 3
 have HM : Hid (m = (packL e).length) := o1.len
 have hm : m ≤ 20000 := by rw [HM.out]; exact HN.out.2.2.2
 have hn0 := hn.1
 have hn1 := hn.2
 have hk0 := hk.1
 have hk1 := hk.2
 have wn : IntKind.i64.wrap (n + 1) = n + 1 := wrap_ok _ (by omega) (by omega)
 have wk : IntKind.i64.wrap (k + (m : Int)) = k + (m : Int) := wrap_ok _ (by omega) (by omega)
 clear TB4 TB5 t0 t1 f0 f1 ht4 o1 hS t4 hb1 hb2 hb3 hb4 D0 D1 D3 D4 DD hDD KS HX HWI HH HT HP HV c0 c1 c2 c3 c4 c5 c6 hn hk hox
 go_wp2
 go_ret
 rw [HM.out]
 exact ⟨rfl, (HA5.out.setT 2 _).setT 3 _, _, x, hsx, ((HTB.out.set2 (n + 1)).set3 _), HT5.out.kept (((KpG.refl G W5).setCell HN.out.1 2 _).setCell HN.out.1 3 _)⟩

end Go.Proofs.YtpabbnddeklpdaaGreat

namespace Go.Proofs.YtpabbnddeklpdaaGreat
open Go.RowKit Go.Shelf
set_option linter.unusedVariables false
attribute [local go_sem] Oper.semAt_some

theorem und_ents : Tryz.prog.underlying 27 = some (.slice 38) := by kernel_rfl
theorem info_ent : (Tryz.prog.info? 38).map (fun i => (i.zero, i.size, i.bytes)) = some (some (.agg #[.slice none 0 0, .int .i64 0, .slice none 0 0, .int .i64 0, .int .i64 0, .int .i64 0, .slice none 0 0]), 7, 104) := by kernel_rfl
def evals (xs : List EntD) : List Value := (xs.map fun e => e.cells.toList).flatten
structure Tb (G : Nat → Prop) (w : World) (t : Nat) (L : List EntD) (k : Int) (f : Bool) : Prop where
 not : ¬ G t
 srt : Srt L
 good : ∀ x ∈ L, checkS x = 0
 few : 0 ≤ k ∧ k ≤ 20000 * (L.length : Int)
 tree : ∃ p T, TBox w t p (L.length : Int) k f ∧ IsT G w p T ∧ T.ord = L
theorem Tb.lens {G : Nat → Prop} {w : World} {t : Nat} {L : List EntD} {k : Int} {f : Bool} (h : Tb G w t L k f) : ∀ x ∈ L, x.row.length ≤ 140737488355328 ∧ x.qual.length ≤ 140737488355328 ∧ x.val.length ≤ 140737488355328 := fun x hx => by
 have c := check_facts (h.good x hx)
 refine ⟨?_, ?_, ?_⟩ <;> omega
theorem checkS_same {a b : EntD} (h : EntD.Same a b) : checkS a = checkS b := by
 obtain ⟨h1, h2, h3, h4, h5, h6, h7⟩ := h
 unfold checkS
 rw [h1, h2, h3, h4, h5, h6, h7]
theorem Tb.later {G : Nat → Prop} {w w' : World} {t : Nat} {L : List EntD} {k : Int} {f : Bool} (h : Tb G w t L k f) (hb : Below w.heap.size w w') : Tb G w' t L k f := by
 obtain ⟨p, T, h1, h2, h3⟩ := h.tree
 exact ⟨h.not, h.srt, h.good, h.few, p, T, h1.later hb, h2.kept (KpG.of hb), h3⟩
theorem add_tb {G : Nat → Prop} {w : World} {t : Nat} {L : List EntD} {k : Int} {f : Bool} {e : EntD} (hb : Tb G w t L k f) (he : EntD.Ok w e) (hG : ∀ i, w.heap.size ≤ i → G i) (hsz : L.length < 1000000000) :
  Calls Tryz.prog 19 #[.pointer (some ⟨t, 0, none⟩), .agg e.cells] w fun z w' => ∃ c : Nat, z = .returned (.int .i64 (c : Int)) ∧ Apart t w w' ∧
   ((c ≠ 0 ∧ Tb G w' t L k f ∧ (checkS e = 0 → f = false → (∃ y ∈ L, compareS e y = 0) ∧ c = 80)) ∨ (c = 0 ∧ checkS e = 0 ∧ f = false ∧ (¬ ∃ y ∈ L, compareS e y = 0) ∧ ∃ A B x, L = A ++ B ∧ EntD.Same x e ∧ Tb G w' t (A ++ x :: B) (k + ((packL e).length : Nat)) f)) := by
 obtain ⟨p, T, h1, h2, h3⟩ := hb.tree
 by_cases hc : checkS e = 0
 ·cases f with
  | true =>
   refine (add_cold h1 he hc).mono ?_
   rintro z w' ⟨rfl, hw⟩
   exact ⟨81, rfl, Apart.of hw, .inl ⟨by decide, hb.later hw, fun _ h => (by cases h)⟩⟩
  | false =>
   have hs : Srt T.ord := by rw [h3]; exact hb.srt
   by_cases hd : ∃ y ∈ L, compareS e y = 0
   ·refine (add_there h1 h2 hs he hc (by rw [h3]; exact hd)).mono ?_
    rintro z w' ⟨rfl, hw⟩
    exact ⟨80, rfl, Apart.of hw, .inl ⟨by decide, hb.later hw, fun _ _ => ⟨hd, rfl⟩⟩⟩
   ·have hf := hb.few
    refine (add_ok h1 h2 hs he hc (by rw [h3]; exact hd) hb.not hG (by rw [h3]; omega) ⟨by omega, by omega⟩ ⟨hf.1, by omega⟩).mono ?_
    rintro z w' ⟨rfl, hap, p', x, hsx, hb', hT'⟩
    obtain ⟨A, B, e1, e2, e3, e4⟩ := hangS_ord x T hs
    rw [h3] at e1
    have hl := packL_len he hc
    refine ⟨0, rfl, hap, .inr ⟨rfl, hc, rfl, hd, A, B, x, e1, hsx, hb.not, ?_, ?_, ?_, p', _, ?_, hT', e2⟩⟩
    ·refine srt_ins (by rw [← e1]; exact hb.srt) (fun a ha => ?_) e4
     have h0 : compareS x a ≠ 0 := fun h0 => hd ⟨a, by rw [e1]; simp [ha], by rw [← compareS_same hsx (show EntD.Same a a from ⟨rfl, rfl, rfl, rfl, rfl, rfl, rfl⟩)]; exact h0⟩
     have := e3 a ha
     omega
    ·intro y hy
     simp only [List.mem_append, List.mem_cons] at hy
     rcases hy with hy | rfl | hy
     ·exact hb.good y (by rw [e1]; simp [hy])
     ·rw [checkS_same hsx]; exact hc
     ·exact hb.good y (by rw [e1]; simp [hy])
    ·have : (A ++ x :: B).length = L.length + 1 := by rw [e1]; simp; omega
     rw [this]
     omega
    ·have : (A ++ x :: B).length = L.length + 1 := by rw [e1]; simp; omega
     rw [this]
     exact hb'
 ·refine (add_bad he hc).mono ?_
  rintro z w' ⟨rfl, hw⟩
  exact ⟨checkS e, rfl, Apart.of hw, .inl ⟨hc, hb.later hw, fun h => absurd h hc⟩⟩
end Go.Proofs.YtpabbnddeklpdaaGreat

namespace Go.Proofs.YtpabbnddeklpdaaGreat
open Go.RowKit Go.Shelf
set_option linter.unusedVariables false
attribute [local go_sem] Oper.semAt_some

def Bxd (w : World) (b : Nat) (t : TypeId) (v : Value) : Prop := w.heap[b]? = some (.cells #[v] t (0, 0))
theorem Bxd.cell {w : World} {b : Nat} {t : TypeId} {v : Value} (h : Bxd w b t v) : w.cell? ⟨b, 0, none⟩ = some v := by unfold Bxd at h; simp [World.cell?, h]
theorem Bxd.fz {w : World} {b : Nat} {t : TypeId} {v : Value} (h : Bxd w b t v) : w.frozen? ⟨b, 0, none⟩ = false := by unfold Bxd at h; simp [World.frozen?, h]
theorem Bxd.lt {w : World} {b : Nat} {t : TypeId} {v : Value} (h : Bxd w b t v) : b < w.heap.size := (Array.getElem?_eq_some_iff.1 h).1
theorem Bxd.new (w : World) (t : TypeId) (v : Value) : Bxd (w.alloc (.cells #[v] t)) w.heap.size t v := World.alloc_heap_new w _
theorem Bxd.set {w : World} {b : Nat} {t : TypeId} {v : Value} (h : Bxd w b t v) (u : Value) : Bxd (w.setCell ⟨b, 0, none⟩ u) b t u := by
 unfold Bxd at *
 simp [World.setCell, Array.getElem?_modify, h]
theorem Bxd.keep {w w' : World} {b : Nat} {t : TypeId} {v : Value} (h : Bxd w b t v) (hb : w'.heap[b]? = w.heap[b]?) : Bxd w' b t v := hb.trans h
theorem Bxd.turn {w w' : World} {B b : Nat} {t : TypeId} {v : Value} (h : Bxd w b t v) (hb : Turn B w w') : Bxd w' b t v := hb.cells _ _ h rfl

theorem own_at {B s n : Nat} {e : TypeId} {v : Value} {xs : List Value} {w : World} (h : w.ownsRow B e s v n xs) {g : Nat} (hg : v.ownBlock = some g) : B ≤ g ∧ ∃ cur, w.heap[g]? = some (.cells cur e (0, 0)) := by
 rcases h.2 with ⟨rfl, _⟩ | ⟨g', cap, cur, rfl, h4, h5, _⟩
 ·cases hg
 ·cases hg; exact ⟨h4, cur, h5⟩

structure Gro (w : World) (Bl B0 : Nat) (pre : List EntD) (W : World) : Prop where
 box : ∃ v, Bxd W Bl 27 v ∧ W.ownsRow B0 38 7 v pre.length (evals pre)
 ents : ∀ x ∈ pre, EOk (fun i => B0 ≤ i) W x
 below : Below w.heap.size w W
 size : B0 ≤ W.heap.size + 6

end Go.Proofs.YtpabbnddeklpdaaGreat

namespace Go.Proofs.YtpabbnddeklpdaaGreat
open Go.RowKit
set_option linter.unusedVariables false

set_option maxRecDepth 100000 in
set_option maxHeartbeats 1000000 in
theorem same8_any {va vb : Value} {xs ys : List Nat} {w : World} (ha : Rd w va xs) (hb : Rd w vb ys) :
  Calls Tryz.prog 35 #[va, vb] w fun e w' => e = .returned (.bool (decide (xs = ys))) ∧ Below w.heap.size w w' := by
 obtain ⟨a, n, cap, rfl⟩ := rd_slice ha
 obtain ⟨b, m, capb, rfl⟩ := rd_slice hb
 obtain ⟨hn, _, _, hn48⟩ := rd_lens ha
 obtain ⟨hm, _, _, hm48⟩ := rd_lens hb
 have HN : Hid (n = xs.length) := hn
 have HM : Hid (m = ys.length) := hm
 clear hn hm
 by_cases hnm : n = m
 ·subst hnm
  go_enter Tryz.func35, Tryz.ntmps35
  go_wp2
  go_loopw [5] (fun i wr => ∃ t : Nat, t ≤ n ∧ i = .int .i64 (t : Int) ∧ xs.take t = ys.take t ∧ Below w.heap.size w wr) (fun i _ => n - (intOf i).toNat)
  case atStart => exact ⟨0, by omega, rfl, rfl, Below.refl _ _⟩
  case round =>
   obtain ⟨t, htn, rfl, heq, hbk⟩ := hrel
   have HQ : Hid (xs.take t = ys.take t) := heq
   clear heq
   by_cases h1 : t < n
   ·have h1' : (t : Int) < (n : Int) := by omega
    have ht0 : (0 : Int) ≤ (t : Int) := by omega
    rcases rd_some ha with ⟨_, h0, _⟩ | ⟨ba, oa, rfl⟩
    ·omega
    rcases rd_some hb with ⟨_, h0, _⟩ | ⟨bb, ob, rfl⟩
    ·omega
    obtain ⟨ca0, cal⟩ := rd_cell ha t h1
    obtain ⟨cb0, cbl⟩ := rd_cell hb t h1
    have ca : wr.cell? ⟨ba, oa + t, none⟩ = some (.int .u8 ((xs.getD t 0 : Nat) : Int)) := by
     rw [hbk.cell (p := ⟨ba, oa + t, none⟩) (World.block_lt_of_cell? w _ ca0)]; exact ca0
    have cb : wr.cell? ⟨bb, ob + t, none⟩ = some (.int .u8 ((ys.getD t 0 : Nat) : Int)) := by
     rw [hbk.cell (p := ⟨bb, ob + t, none⟩) (World.block_lt_of_cell? w _ cb0)]; exact cb0
    have HTE : Hid (xs.getD t 0 = ys.getD t 0 → xs.take (t + 1) = ys.take (t + 1)) := fun e => take_eq (by rw [← HN.out]; exact h1) (by rw [← HM.out]; exact h1) HQ.out e
    have HNE : Hid (xs.getD t 0 ≠ ys.getD t 0 → xs ≠ ys) := fun e h => e (by rw [h])
    obtain ⟨x, hx⟩ : ∃ x, x = xs.getD t 0 := ⟨_, rfl⟩
    obtain ⟨y, hy⟩ : ∃ y, y = ys.getD t 0 := ⟨_, rfl⟩
    rw [← hx] at ca cal HTE HNE
    rw [← hy] at cb cbl HTE HNE
    clear hx hy ca0 cb0
    by_cases hxy : x = y
    ·subst hxy
     go_wp2
     go_quiet (fail)
     go_wp2
     go_roundw
     case rel => exact ⟨t + 1, by omega, by go_num, HTE.out trivial, below_drewN hbk _⟩
     case measure => simp [intOf]; omega
    ·have hxy' : ¬ ((x : Int) = (y : Int)) := by omega
     go_wp2
     go_quiet (fail)
     go_wp2
     go_ret
     rw [decide_eq_false (HNE.out hxy)]
     exact ⟨rfl, below_drewN hbk _⟩
   ·have h1' : (n : Int) ≤ (t : Int) := by omega
    go_wp2
    go_ret
    have e : xs = ys := by
     have := HQ.out
     rw [List.take_of_length_le (by rw [← HN.out]; omega), List.take_of_length_le (by rw [← HM.out]; omega)] at this
     exact this
    rw [decide_eq_true e]
    exact ⟨rfl, hbk⟩
 ·have hnm' : ¬ ((n : Int) = (m : Int)) := by omega
  go_enter Tryz.func35, Tryz.ntmps35
  go_wp2
  go_ret
  rw [decide_eq_false (fun e => hnm (by rw [HN.out, HM.out, e]))]
  exact ⟨rfl, Below.refl _ _⟩

instance (a b : EntD) : Decidable (EntD.Same a b) := by unfold EntD.Same; infer_instance

set_option maxRecDepth 100000 in
set_option maxHeartbeats 8000000 in
theorem se_any {a b : EntD} {w : World} (ha : EntD.Ok w a) (hb : EntD.Ok w b) :
  Calls Tryz.prog 11 #[.agg a.cells, .agg b.cells] w fun r w' => r = .returned (.bool (decide (EntD.Same a b))) ∧ Below w.heap.size w w' := by
 have A1 := (Below.refl w.heap.size w).alloc (Nat.le_refl _) (.cells a.cells 38)
 have A2 := A1.alloc A1.size (.cells b.cells 38)
 have bxa0 := (EBox.new w a).later ((Below.refl (w.alloc (.cells a.cells 38)).heap.size (w.alloc (.cells a.cells 38))).alloc (Nat.le_refl _) (.cells b.cells 38))
 have bxb0 := EBox.new (w.alloc (.cells a.cells 38)) b
 rw [World.size_alloc] at bxb0
 obtain ⟨V, hV⟩ : ∃ V, V = (w.alloc (.cells a.cells 38)).alloc (.cells b.cells 38) := ⟨_, rfl⟩
 rw [← hV] at A2 bxa0 bxb0
 have HV : Hid (V = _) := hV
 clear hV A1
 have HX : Hid (EBox V w.heap.size a ∧ EBox V (w.heap.size + 1) b ∧ Below w.heap.size w V) := ⟨bxa0, bxb0, A2⟩
 have HA : Hid (∀ wx, Below V.heap.size V wx → EntD.Ok wx a ∧ EntD.Ok wx b ∧ EBox wx w.heap.size a ∧ EBox wx (w.heap.size + 1) b) := fun wx q => ⟨(ha.later A2).later q, (hb.later A2).later q, bxa0.later q, bxb0.later q⟩
 obtain ⟨c0, c1, c2, c3, c4, c5, c6⟩ := (⟨bxa0.vr, bxa0.fam, bxa0.vq, bxa0.ts, bxa0.seq, bxa0.kind, bxa0.vv⟩ : _ ∧ _ ∧ _ ∧ _ ∧ _ ∧ _ ∧ _)
 obtain ⟨d0, d1, d2, d3, d4, d5, d6⟩ := (⟨bxb0.vr, bxb0.fam, bxb0.vq, bxb0.ts, bxb0.seq, bxb0.kind, bxb0.vv⟩ : _ ∧ _ ∧ _ ∧ _ ∧ _ ∧ _ ∧ _)
 clear A2 bxa0 bxb0 ha hb
 obtain ⟨va, fa, qa, ta, sa, ka, wa, ra, la, ya⟩ := a
 obtain ⟨vb, fb, qb, tb, sb, kb, wb, rb, lb, yb⟩ := b
 simp only [EntD.cells] at *
 by_cases h1 : fa = fb
 ·by_cases h2 : ta = tb
  ·by_cases h3 : sa = sb
   ·by_cases h4 : ka = kb
    ·subst h1 h2 h3 h4
     go_enter Tryz.func11, Tryz.ntmps11
     go_wp2_with fail
     rw [← HV.out]
     go_wp2_with fail
     refine (same8_any (HA.out _ (Below.refl _ _)).1.1 (HA.out _ (Below.refl _ _)).2.1.1).mono ?_
     rintro e w1 ⟨rfl, hb1⟩
     by_cases e1 : ra = rb
     ·rw [decide_eq_true e1]
      have x2 := (HA.out _ hb1).2.2.1.vq
      have y2 := (HA.out _ hb1).2.2.2.vq
      simp only at x2 y2
      go_wp2_with fail
      refine (same8_any (HA.out _ hb1).1.2.1 (HA.out _ hb1).2.1.2.1).mono ?_
      rintro e w2 ⟨rfl, hb2⟩
      have B2 := hb1.trans (hb2.mono hb1.size)
      by_cases e2 : la = lb
      ·rw [decide_eq_true e2]
       have x6 := (HA.out _ B2).2.2.1.vv
       have y6 := (HA.out _ B2).2.2.2.vv
       simp only at x6 y6
       go_wp2_with fail
       refine (same8_any (HA.out _ B2).1.2.2 (HA.out _ B2).2.1.2.2).mono ?_
       rintro e w3 ⟨rfl, hb3⟩
       have B3 := B2.trans (hb3.mono B2.size)
       by_cases e3 : ya = yb
       ·rw [decide_eq_true e3]
        go_wp2
        go_ret
        have hd : decide (EntD.Same ⟨va, fa, qa, ta, sa, ka, wa, ra, la, ya⟩ ⟨vb, fa, qb, ta, sa, ka, wb, rb, lb, yb⟩) = true := decide_eq_true ⟨rfl, rfl, rfl, rfl, e1, e2, e3⟩
        rw [hd]
        exact ⟨rfl, HX.out.2.2.trans (B3.mono HX.out.2.2.size)⟩
       ·rw [decide_eq_false e3]
        go_wp2
        go_ret
        rw [decide_eq_false (show ¬ EntD.Same _ _ from fun h => e3 h.2.2.2.2.2.2)]
        exact ⟨rfl, HX.out.2.2.trans (B3.mono HX.out.2.2.size)⟩
      ·rw [decide_eq_false e2]
       go_wp2
       go_ret
       rw [decide_eq_false (show ¬ EntD.Same _ _ from fun h => e2 h.2.2.2.2.2.1)]
       exact ⟨rfl, HX.out.2.2.trans (B2.mono HX.out.2.2.size)⟩
     ·rw [decide_eq_false e1]
      go_wp2
      go_ret
      rw [decide_eq_false (show ¬ EntD.Same _ _ from fun h => e1 h.2.2.2.2.1)]
      exact ⟨rfl, HX.out.2.2.trans (hb1.mono HX.out.2.2.size)⟩
    ·subst h1 h2 h3
     go_enter Tryz.func11, Tryz.ntmps11
     go_wp2_with fail
     rw [← HV.out]
     go_wp2
     go_ret
     rw [decide_eq_false (show ¬ EntD.Same _ _ from fun h => h4 h.2.2.2.1)]
     exact ⟨rfl, HX.out.2.2⟩
   ·subst h1 h2
    go_enter Tryz.func11, Tryz.ntmps11
    go_wp2_with fail
    rw [← HV.out]
    go_wp2
    go_ret
    rw [decide_eq_false (show ¬ EntD.Same _ _ from fun h => h3 h.2.2.1)]
    exact ⟨rfl, HX.out.2.2⟩
  ·subst h1
   go_enter Tryz.func11, Tryz.ntmps11
   go_wp2_with fail
   rw [← HV.out]
   go_wp2
   go_ret
   rw [decide_eq_false (show ¬ EntD.Same _ _ from fun h => h2 h.2.1)]
   exact ⟨rfl, HX.out.2.2⟩
 ·go_enter Tryz.func11, Tryz.ntmps11
  go_wp2_with fail
  rw [← HV.out]
  go_wp2
  go_ret
  rw [decide_eq_false (show ¬ EntD.Same _ _ from fun h => h1 h.1)]
  exact ⟨rfl, HX.out.2.2⟩
end Go.Proofs.YtpabbnddeklpdaaGreat

namespace Go.Proofs.YtpabbnddeklpdaaGreat
open Go.RowKit Go.Shelf
set_option linter.unusedVariables false
attribute [local go_sem] Oper.semAt_some

def atD (vr vq vv : Value) (ts : Int) : EntD := ⟨vr, 0, vq, ts, 32, 1, vv, [114], [113], [118]⟩
def zD : EntD := ⟨.slice none 0 0, 0, .slice none 0 0, 0, 0, 0, .slice none 0 0, [], [], []⟩

set_option maxRecDepth 100000 in
set_option maxHeartbeats 1000000 in
theorem at_any (ts : Int) (w : World) : Calls Tryz.prog 20 #[.int .i64 ts] w fun e w' => ∃ vr vq vv, e = .returned (.agg (atD vr vq vv ts).cells) ∧ EntD.Ok w' (atD vr vq vv ts) ∧ Below w.heap.size w w' := by
 have k1 := Joins.run_convert_bytes_const_at (P := Tryz.prog) (w.alloc (.cells zD.cells 38)) 34 5 #[.int .u8 114] 1 1 (w.heap.size + 1) (by simp) und_bytes und_byte
 have k2 := Joins.run_convert_bytes_const_at (P := Tryz.prog) ((w.alloc (.cells zD.cells 38)).alloc (.cells #[.int .u8 114] 5 (1, 2))) 34 5 #[.int .u8 113] 1 1 (w.heap.size + 2) (by simp) und_bytes und_byte
 have k3 := Joins.run_convert_bytes_const_at (P := Tryz.prog) (((w.alloc (.cells zD.cells 38)).alloc (.cells #[.int .u8 114] 5 (1, 2))).alloc (.cells #[.int .u8 113] 5 (1, 2))) 34 5 #[.int .u8 118] 1 1 (w.heap.size + 3) (by simp) und_bytes und_byte
 simp only [zD, EntD.cells, List.size_toArray, List.length_cons, List.length_nil, Nat.zero_add] at k1 k2 k3
 obtain ⟨w4, hw4, bx, d2, d3, d4, bel⟩ := three w (atD (.slice (some ⟨w.heap.size + 1, 0, none⟩) 1 1) (.slice (some ⟨w.heap.size + 2, 0, none⟩) 1 1) (.slice (some ⟨w.heap.size + 3, 0, none⟩) 1 1) ts)
 have HF : Hid (_ ∧ _ ∧ _ ∧ _ ∧ _ ∧ _) := ⟨hw4, bx, d2, d3, d4, bel⟩
 clear bx d2 d3 d4 bel hw4
 simp only [atD, EntD.cells] at HF
 go_enter Tryz.func20, Tryz.ntmps20
 go_wp2
 clear k1 k2 k3
 obtain ⟨hw4, bx, d2, d3, d4, bel⟩ := HF.out
 clear HF
 rw [← hw4]
 have y0 := bx.vr
 have y1 := bx.fam
 have y2 := bx.vq
 have y3 := bx.ts
 have y4 := bx.seq
 have y5 := bx.kind
 have y6 := bx.vv
 simp only at y0 y1 y2 y3 y4 y5 y6
 refine bodyPost_ret (v := .agg (atD (.slice (some ⟨w.heap.size + 1, 0, none⟩) 1 1) (.slice (some ⟨w.heap.size + 2, 0, none⟩) 1 1) (.slice (some ⟨w.heap.size + 3, 0, none⟩) 1 1) ts).cells) (by simp [results, Tryz.results20, go_sem, y0, y1, y2, y3, y4, y5, y6, atD, EntD.cells]) rfl ?_
 exact ⟨_, _, _, rfl, ⟨rd_one d2 (by decide), rd_one d3 (by decide), rd_one d4 (by decide)⟩, bel⟩

set_option maxRecDepth 100000 in
set_option maxHeartbeats 4000000 in
theorem from_any {w : World} {e : EntD} {v : Option Addr} (he : EntD.Ok w e) (hl : e.row.length ≤ 140737488355328 ∧ e.qual.length ≤ 140737488355328) :
  Calls Tryz.prog 7 #[.pointer v, .agg e.cells] w fun z w' => (∃ lb, z = .returned (.func (.func 25) #[] lb)) ∧ Below w.heap.size w w' := by
 have A1 := (Below.refl w.heap.size w).alloc (Nat.le_refl _) (.cells #[.pointer v] 25)
 obtain ⟨d, hd⟩ : ∃ d : EntD, d = { e with vv := .slice none 0 0, val := [] } := ⟨_, rfl⟩
 have A2 := A1.alloc A1.size (.cells d.cells 38)
 have hed : EntD.Ok ((w.alloc (.cells #[.pointer v] 25)).alloc (.cells d.cells 38)) d := by
  rw [hd]
  rw [hd] at A2
  exact ⟨he.1.later A2, he.2.1.later A2, Rd.nil _⟩
 have HC : Hid (Calls Tryz.prog 24 _ _ _) := copyOf_any hed (by rw [hd]; exact ⟨hl.1, hl.2, by simp⟩)
 have HA : Hid (Below w.heap.size w ((w.alloc (.cells #[.pointer v] 25)).alloc (.cells d.cells 38))) := A2
 obtain ⟨ar, nr, cr, e1⟩ := rd_slice he.1
 obtain ⟨aq, nq, cq, e2⟩ := rd_slice he.2.1
 obtain ⟨av, nv, cv, e3⟩ := rd_slice he.2.2
 have ed : d.cells = #[e.vr, .int .i64 e.fam, e.vq, .int .i64 e.ts, .int .i64 e.seq, .int .i64 e.kind, .slice none 0 0] := by rw [hd]; rfl
 rw [ed] at HC HA
 unfold EntD.cells
 rw [e1, e2] at HC HA
 rw [e1, e2, e3]
 clear A1 A2 he hl hed ed hd e1 e2 e3
 go_enter Tryz.func7, Tryz.ntmps7
 go_wp2_with fail
 refine Calls.mono HC.out ?_
 rintro z w1 ⟨x, rfl, -, hx, hb⟩
 obtain ⟨vr, fam, vq, ts, seq, kind, vv, row, qual, val⟩ := x
 obtain ⟨br, mr, dr, e1⟩ := rd_slice hx.ok.1
 obtain ⟨bq, mq, dq, e2⟩ := rd_slice hx.ok.2.1
 obtain ⟨bv, mv, dv, e3⟩ := rd_slice hx.ok.2.2
 simp only at e1 e2 e3
 subst e1 e2 e3
 have B1 := HA.out.trans (hb.mono HA.out.size)
 clear hx hb HC HA
 simp only [EntD.cells]
 go_wp2
 go_ret
 exact ⟨⟨_, rfl⟩, B1.alloc B1.size _⟩
end Go.Proofs.YtpabbnddeklpdaaGreat

namespace Go.Proofs.YtpabbnddeklpdaaGreat
open Go.RowKit Go.Shelf
set_option linter.unusedVariables false
attribute [local go_sem] Oper.semAt_some

theorem cmp_at (a b c a' b' c' : Value) (s t : Int) : compareS (atD a b c s) (atD a' b' c' t) = cmpI t s := by
 unfold compareS cmpsS atD
 simp [firstNZ, ordC, aheadS, cmpI]
 exact fun h => h.symm
theorem check_at (a b c : Value) (s : Int) (h : 1 ≤ s ∧ s ≤ 100) : checkS (atD a b c s) = 0 := by
 unfold checkS atD
 simp
 omega

structure Td (w : World) (L : List EntD) (k : Int) (W : World) : Prop where
 box : Bxd W w.heap.size 4 (.bool false)
 tab : Tb (fun i => w.heap.size + 1 < i) W (w.heap.size + 1) L k false
 below : Below w.heap.size w W
 size : w.heap.size + 2 ≤ W.heap.size
theorem Td.later {w W W' : World} {L : List EntD} {k : Int} (h : Td w L k W) (b : Below W.heap.size W W') : Td w L k W' :=
 ⟨h.box.keep (b.block _ h.box.lt), h.tab.later b, h.below.trans (b.mono h.below.size), Nat.le_trans h.size b.size⟩
theorem Td.apart {w W W' : World} {L L' : List EntD} {k k' : Int} (h : Td w L k W) (b : Apart (w.heap.size + 1) W W') (t : Tb (fun i => w.heap.size + 1 < i) W' (w.heap.size + 1) L' k' false) : Td w L' k' W' :=
 ⟨h.box.keep (b.block _ h.box.lt (by omega)), t, h.below.trans (b.below (by omega) h.below.size), Nat.le_trans h.size b.size⟩
theorem Td.hG {w W : World} {L : List EntD} {k : Int} (h : Td w L k W) : ∀ i, W.heap.size ≤ i → w.heap.size + 1 < i := fun i hi => by have := h.size; omega

theorem same_at {a b c : Value} {s : Int} {x y : EntD} {a' b' c' : Value} {t : Int} (hx : EntD.Same x (atD a b c s)) (hy : EntD.Same y (atD a' b' c' t)) : compareS x y = cmpI t s := (compareS_same hx hy).trans (cmp_at ..)

theorem td_first {w W : World} {k : Int} {a b c : Value} (h : Td w [] k W) (he : EntD.Ok W (atD a b c 4)) :
  Calls Tryz.prog 19 #[.pointer (some ⟨w.heap.size + 1, 0, none⟩), .agg (atD a b c 4).cells] W fun z w' => z = .returned (.int .i64 0) ∧ ∃ x k, EntD.Same x (atD a b c 4) ∧ Td w [x] k w' := by
 refine (add_tb h.tab he h.hG (by simp)).mono ?_
 rintro z w' ⟨n, rfl, hap, ⟨h0, _, h2⟩ | ⟨rfl, _, _, _, A, B, x, h3, h4, h5⟩⟩
 ·obtain ⟨⟨y, hy, _⟩, _⟩ := h2 (check_at _ _ _ _ (by omega)) rfl
  cases hy
 ·obtain ⟨rfl, rfl⟩ := List.append_eq_nil_iff.1 h3.symm
  exact ⟨rfl, x, _, h4, h.apart hap h5⟩
theorem td_second {w W : World} {k : Int} {a b c a' b' c' : Value} {x : EntD} (h : Td w [x] k W) (hx : EntD.Same x (atD a' b' c' 4)) (he : EntD.Ok W (atD a b c 5)) :
  Calls Tryz.prog 19 #[.pointer (some ⟨w.heap.size + 1, 0, none⟩), .agg (atD a b c 5).cells] W fun z w' => z = .returned (.int .i64 0) ∧ ∃ y k, EntD.Same y (atD a b c 5) ∧ Td w [y, x] k w' := by
 refine (add_tb h.tab he h.hG (by simp)).mono ?_
 rintro z w' ⟨n, rfl, hap, ⟨h0, _, h2⟩ | ⟨rfl, _, _, _, A, B, y, h3, h4, h5⟩⟩
 ·obtain ⟨⟨y, hy, hc⟩, _⟩ := h2 (check_at _ _ _ _ (by omega)) rfl
  simp only [List.mem_singleton] at hy
  subst hy
  rw [same_at (show EntD.Same _ _ from ⟨rfl, rfl, rfl, rfl, rfl, rfl, rfl⟩) hx] at hc
  simp [cmpI] at hc
 ·refine ⟨rfl, y, k + ((packL (atD a b c 5)).length : Nat), h4, ?_⟩
  cases A with
  | nil =>
   simp only [List.nil_append] at h3 h5
   subst h3
   exact h.apart hap h5
  | cons q A =>
   simp only [List.cons_append, List.cons.injEq] at h3
   obtain ⟨rfl, h3⟩ := h3
   obtain ⟨rfl, rfl⟩ := List.append_eq_nil_iff.1 h3.symm
   have := h5.srt
   simp only [Srt, List.cons_append, List.nil_append, List.pairwise_cons, List.mem_singleton] at this
   have h6 := this.1 y (by simp)
   rw [same_at hx h4] at h6
   simp [cmpI] at h6
theorem td_third {w W : World} {k : Int} {a b c a' b' c' : Value} {x y : EntD} (h : Td w [y, x] k W) (hy : EntD.Same y (atD a' b' c' 5)) (he : EntD.Ok W (atD a b c 5)) :
  Calls Tryz.prog 19 #[.pointer (some ⟨w.heap.size + 1, 0, none⟩), .agg (atD a b c 5).cells] W fun z w' => z = .returned (.int .i64 80) ∧ Td w [y, x] k w' := by
 refine (add_tb h.tab he h.hG (by simp)).mono ?_
 rintro z w' ⟨n, rfl, hap, ⟨h0, h1, h2⟩ | ⟨rfl, _, _, hn, A, B, z, h3, h4, h5⟩⟩
 ·obtain ⟨_, rfl⟩ := h2 (check_at _ _ _ _ (by omega)) rfl
  exact ⟨rfl, h.apart hap h1⟩
 ·exact absurd ⟨y, by simp, by rw [same_at (show EntD.Same _ _ from ⟨rfl, rfl, rfl, rfl, rfl, rfl, rfl⟩) hy]; simp [cmpI]⟩ hn
theorem td_new (w W : World) (hb : Bxd W w.heap.size 4 (.bool false)) (hs : W.heap.size = w.heap.size + 1) (hbl : Below w.heap.size w W) :
  Calls Tryz.prog 5 #[] W fun z w' => z = .returned (.pointer (some ⟨w.heap.size + 1, 0, none⟩)) ∧ Td w [] 0 w' := by
 refine (new_any W).mono ?_
 rintro z w' ⟨rfl, h1, h2, h3⟩
 rw [hs] at h1
 refine ⟨by rw [hs], hb.keep (h3.block _ hb.lt), ⟨by omega, List.Pairwise.nil, by simp, by simp, none, .leaf, h1, rfl, rfl⟩, hbl.trans (h3.mono (by omega)), by omega⟩
theorem nx2 {y z : EntD} {B : Nat} {pre : List EntD} {x : EntD} {X : World} (h : NxC [y, z] B pre x X) : (pre.length = 0 ∧ EntD.Same x y) ∨ (pre.length = 1 ∧ EntD.Same x z) := by
 obtain ⟨_, ⟨q, ⟨r, hr⟩, hs⟩, _⟩ := h
 have hl := hs.len
 have hl2 := congrArg List.length hr
 simp at hl hl2
 match pre, q, hs, hr with
 | [], [a], hs, hr =>
  simp only [List.cons_append, List.nil_append, List.cons.injEq] at hr
  exact .inl ⟨rfl, by rw [← hr.1]; exact hs.1⟩
 | [p], [a, b], hs, hr =>
  simp only [List.cons_append, List.nil_append, List.cons.injEq] at hr
  exact .inr ⟨rfl, by rw [← hr.2.1]; exact hs.2.1⟩
 | [], [], hs, _ => exact hs.elim
 | [], a :: b :: q, hs, _ => exact hs.2.elim
 | [p], [], hs, _ => exact hs.elim
 | [p], [a], hs, _ => exact hs.2.elim
 | [p], a :: b :: c :: q, hs, _ => exact hs.2.2.elim
 | p :: p' :: pre, q, hs, hr => simp at hl; omega
end Go.Proofs.YtpabbnddeklpdaaGreat
