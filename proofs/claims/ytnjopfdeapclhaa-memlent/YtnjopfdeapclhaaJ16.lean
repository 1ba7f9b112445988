import Derived.Test.YtnjopfdeapclhaaJ10
import Derived.Test.YtnjopfdeapclhaaJ11
import Derived.Test.YtnjopfdeapclhaaM11
namespace Go.Proofs.Ytnjopfdeapclhaa
open Go.RowKit
set_option linter.unusedVariables false

theorem packL_len {w : World} {e : EntD} (hok : EntD.Ok w e) (hc : checkS e = 0) : (packL e).length ≤ 20000 := by
  have h1 := keyL_len hc
  have h2 : e.val.length ≤ 4096 := (check_facts hc).2.2.2.2.2.2.2.1
  unfold packL
  rw [List.length_append]
  have k1 : (bytesL (keyL e)).length ≤ (keyL e).length + 10 := bytesL_le _
  have k2 : (bytesL e.val).length ≤ e.val.length + 10 := bytesL_le _
  omega

theorem Apart.setT {t : Nat} {w w' : World} (h : Apart t w w') (i : Nat) (v : Value) : Apart t w (w'.setCell ⟨t, i, none⟩ v) :=
  ⟨h.os, h.tape, h.output, by rw [World.size_setCell]; exact h.size, fun k hk hne => (Below.heap_setCell w' ⟨t, i, none⟩ v k hne).trans (h.block k hk hne)⟩
theorem wrap_ok (z : Int) (h0 : 0 ≤ z) (h1 : z < 9223372036854775808) : IntKind.i64.wrap z = z := by
  have := i64_natM z z.toNat (by omega) (by omega)
  rw [this]; omega

set_option maxRecDepth 100000 in
set_option maxHeartbeats 4000000 in
/-- What Check refuses. -/
theorem add_bad {w : World} {t : Nat} {e : EntD} (he : EntD.Ok w e) (hc : checkS e ≠ 0) :
    Calls Try.prog 9 #[.pointer (some ⟨t, 0, none⟩), .agg e.cells] w fun z w' => z = .returned (.int .i64 ((checkS e : Nat) : Int)) ∧ Below w.heap.size w w' := by
  have A1 := (Below.refl w.heap.size w).alloc (Nat.le_refl _) (.cells e.cells 30)
  have bx := EBox.new w e
  have HP : Hid (Calls Try.prog 17 #[.agg e.cells] (w.alloc (.cells e.cells 30)) _) := pack_bad (he.later A1) hc
  obtain ⟨c0, c1, c2, c3, c4, c5, c6⟩ := (⟨bx.vr, bx.fam, bx.vq, bx.ts, bx.seq, bx.kind, bx.vv⟩ : _ ∧ _ ∧ _ ∧ _ ∧ _ ∧ _ ∧ _)
  obtain ⟨C, hC⟩ : ∃ C, C = checkS e := ⟨_, rfl⟩
  rw [← hC] at HP hc ⊢
  clear hC
  have h0 : ((C : Int) != 0) = true := by simp; omega
  have h1 : ¬ ((C : Int) = 0) := by omega
  unfold EntD.cells at HP
  unfold EntD.cells
  clear bx he
  go_enter Try.func9, Try.ntmps9
  go_wp2_with (go_at_call 17; refine Calls.mono HP.out ?_; rintro z w1 ⟨rfl, hb1⟩)
  go_ret
  exact ⟨rfl, A1.trans (hb1.mono A1.size)⟩

set_option maxRecDepth 100000 in
set_option maxHeartbeats 4000000 in
/-- A frozen table takes nothing. -/
theorem add_cold {w : World} {t : Nat} {p : Option Addr} {n k : Int} {e : EntD} (hb : TBox w t p n k true) (he : EntD.Ok w e) (hc : checkS e = 0) :
    Calls Try.prog 9 #[.pointer (some ⟨t, 0, none⟩), .agg e.cells] w fun z w' => z = .returned (.int .i64 81) ∧ Below w.heap.size w w' := by
  have A1 := (Below.refl w.heap.size w).alloc (Nat.le_refl _) (.cells e.cells 30)
  have bx := EBox.new w e
  have HP : Hid (Calls Try.prog 17 #[.agg e.cells] (w.alloc (.cells e.cells 30)) _) := pack_ok (he.later A1) hc
  obtain ⟨c0, c1, c2, c3, c4, c5, c6⟩ := (⟨bx.vr, bx.fam, bx.vq, bx.ts, bx.seq, bx.kind, bx.vv⟩ : _ ∧ _ ∧ _ ∧ _ ∧ _ ∧ _ ∧ _)
  have HT : Hid (∀ wx, Below w.heap.size w wx → wx.cell? ⟨t, 4, none⟩ = some (.bool true)) := fun wx b => (hb.later b).cells.2.2.2.2
  unfold EntD.cells at HP
  unfold EntD.cells
  clear bx he hc hb
  go_enter Try.func9, Try.ntmps9
  go_wp2_with (go_at_call 17; refine Calls.mono HP.out ?_; rintro z w1 ⟨a, m, c, rfl, o1, hb1⟩; have t4 := HT.out _ (A1.trans (hb1.mono A1.size)))
  go_ret
  exact ⟨rfl, A1.trans (hb1.mono A1.size)⟩

set_option maxRecDepth 100000 in
set_option maxHeartbeats 8000000 in
theorem add_there {G : Nat → Prop} {w : World} {t : Nat} {p : Option Addr} {T : BT} {n k : Int} {e : EntD} (hb : TBox w t p n k false) (hT : IsT G w p T) (hs : Srt T.ord) (he : EntD.Ok w e) (hc : checkS e = 0) (hd : ∃ y ∈ T.ord, compareS e y = 0) :
    Calls Try.prog 9 #[.pointer (some ⟨t, 0, none⟩), .agg e.cells] w fun z w' => z = .returned (.int .i64 80) ∧ Below w.heap.size w w' := by
  have A1 := (Below.refl w.heap.size w).alloc (Nat.le_refl _) (.cells e.cells 30)
  have bx := EBox.new w e
  have HP : Hid (Calls Try.prog 17 #[.agg e.cells] (w.alloc (.cells e.cells 30)) _) := pack_ok (he.later A1) hc
  obtain ⟨c0, c1, c2, c3, c4, c5, c6⟩ := (⟨bx.vr, bx.fam, bx.vq, bx.ts, bx.seq, bx.kind, bx.vv⟩ : _ ∧ _ ∧ _ ∧ _ ∧ _ ∧ _ ∧ _)
  obtain ⟨V, hV⟩ : ∃ V, V = w.alloc (.cells e.cells 30) := ⟨_, rfl⟩
  rw [← hV] at A1 bx HP c0 c1 c2 c3 c4 c5 c6
  have HV : Hid (V = _) := hV
  clear hV
  have KS : Hid (∀ wx, Below V.heap.size V wx → wx.cell? ⟨t, 0, none⟩ = some (.pointer p) ∧ wx.cell? ⟨t, 1, none⟩ = some (.func (.func 18) #[] #[]) ∧ wx.cell? ⟨w.heap.size, 0, none⟩ = some e.vr ∧ wx.cell? ⟨w.heap.size, 1, none⟩ = some (.int .i64 e.fam) ∧ wx.cell? ⟨w.heap.size, 2, none⟩ = some e.vq ∧ wx.cell? ⟨w.heap.size, 3, none⟩ = some (.int .i64 e.ts) ∧ wx.cell? ⟨w.heap.size, 4, none⟩ = some (.int .i64 e.seq) ∧ wx.cell? ⟨w.heap.size, 5, none⟩ = some (.int .i64 e.kind) ∧ wx.cell? ⟨w.heap.size, 6, none⟩ = some e.vv) := fun wx b => by
    have k1 := ((hb.later A1).later b).cells
    have k2 := bx.later b
    exact ⟨k1.1, k1.2.1, k2.vr, k2.fam, k2.vq, k2.ts, k2.seq, k2.kind, k2.vv⟩
  have HH : Hid (∀ wx, Below V.heap.size V wx → Calls Try.prog 32 #[.agg #[.pointer p, .func (.func 18) #[] #[]], .agg #[e.vr, .int .i64 e.fam, e.vq, .int .i64 e.ts, .int .i64 e.seq, .int .i64 e.kind, e.vv]] wx fun z w' => z = .returned (.bool true) ∧ Below wx.heap.size wx w') := fun wx b => by
    refine (has_any (hT.kept (KpG.of (A1.trans (b.mono A1.size)))) (he.later (A1.trans (b.mono A1.size))) hs).mono ?_
    rintro z w' ⟨q, rfl, hq, hb'⟩
    refine ⟨?_, hb'⟩
    have : q = true := by exact hq.2 hd
    rw [this]
  have HT : Hid (∀ wx, Below V.heap.size V wx → wx.cell? ⟨t, 4, none⟩ = some (.bool false)) := fun wx b => ((hb.later A1).later b).cells.2.2.2.2
  
  unfold EntD.cells at HP HV
  unfold EntD.cells
  clear bx he hc hb hT hs hd
  go_enter Try.func9, Try.ntmps9
  go_wp2_with fail
  rw [← HV.out]
  go_wp2_with (go_at_call 17; refine Calls.mono HP.out ?_; rintro z w1 ⟨a, m, c, rfl, o1, hb1⟩; have t4 := HT.out _ hb1)
  have D0 : Below V.heap.size V w1.drew := hb1.drew
  go_region_held3 (fun wx => wx.cell? ⟨t, 0, none⟩ = some (.pointer p) ∧ wx.cell? ⟨t, 1, none⟩ = some (.func (.func 18) #[] #[]) ∧ wx.cell? ⟨w.heap.size, 0, none⟩ = some e.vr ∧ wx.cell? ⟨w.heap.size, 1, none⟩ = some (.int .i64 e.fam) ∧ wx.cell? ⟨w.heap.size, 2, none⟩ = some e.vq ∧ wx.cell? ⟨w.heap.size, 3, none⟩ = some (.int .i64 e.ts) ∧ wx.cell? ⟨w.heap.size, 4, none⟩ = some (.int .i64 e.seq) ∧ wx.cell? ⟨w.heap.size, 5, none⟩ = some (.int .i64 e.kind) ∧ wx.cell? ⟨w.heap.size, 6, none⟩ = some e.vv) (first | exact KS.out _ D0 | exact KS.out _ D1) (first | (go_at_call 32; refine Calls.mono (HH.out _ D0) ?_; rintro z w2 ⟨rfl, hb2⟩; have D1 := D0.trans (hb2.mono D0.size)))
  go_wp2_with fail
  go_ret
  exact ⟨rfl, A1.trans (D1.mono A1.size)⟩

set_option maxRecDepth 100000 in
set_option maxHeartbeats 8000000 in
theorem add_ok {G : Nat → Prop} {w : World} {t : Nat} {p : Option Addr} {T : BT} {n k : Int} {e : EntD} (hb : TBox w t p n k false) (hT : IsT G w p T) (hs : Srt T.ord) (he : EntD.Ok w e) (hc : checkS e = 0) (hd : ¬ ∃ y ∈ T.ord, compareS e y = 0) (hne : ¬ G t) (hG : ∀ i, w.heap.size ≤ i → G i) (hsz : T.ord.length < 274877906000) (hn : 0 ≤ n ∧ n < 1099511627776) (hk : 0 ≤ k ∧ k < 1152921504606846976) :
    Calls Try.prog 9 #[.pointer (some ⟨t, 0, none⟩), .agg e.cells] w fun z w' => z = .returned (.int .i64 0) ∧ Apart t w w' ∧ ∃ p' x, EntD.Same x e ∧ TBox w' t p' (n + 1) (k + ((packL e).length : Nat)) false ∧ IsT G w' p' (hangS x T) := by
  have A1 := (Below.refl w.heap.size w).alloc (Nat.le_refl _) (.cells e.cells 30)
  have bx := EBox.new w e
  have HP : Hid (Calls Try.prog 17 #[.agg e.cells] (w.alloc (.cells e.cells 30)) _) := pack_ok (he.later A1) hc
  obtain ⟨c0, c1, c2, c3, c4, c5, c6⟩ := (⟨bx.vr, bx.fam, bx.vq, bx.ts, bx.seq, bx.kind, bx.vv⟩ : _ ∧ _ ∧ _ ∧ _ ∧ _ ∧ _ ∧ _)
  obtain ⟨V, hV⟩ : ∃ V, V = w.alloc (.cells e.cells 30) := ⟨_, rfl⟩
  rw [← hV] at A1 bx HP c0 c1 c2 c3 c4 c5 c6
  have HV : Hid (V = _) := hV
  clear hV
  have KS : Hid (∀ wx, Below V.heap.size V wx → wx.cell? ⟨t, 0, none⟩ = some (.pointer p) ∧ wx.cell? ⟨t, 1, none⟩ = some (.func (.func 18) #[] #[]) ∧ wx.cell? ⟨w.heap.size, 0, none⟩ = some e.vr ∧ wx.cell? ⟨w.heap.size, 1, none⟩ = some (.int .i64 e.fam) ∧ wx.cell? ⟨w.heap.size, 2, none⟩ = some e.vq ∧ wx.cell? ⟨w.heap.size, 3, none⟩ = some (.int .i64 e.ts) ∧ wx.cell? ⟨w.heap.size, 4, none⟩ = some (.int .i64 e.seq) ∧ wx.cell? ⟨w.heap.size, 5, none⟩ = some (.int .i64 e.kind) ∧ wx.cell? ⟨w.heap.size, 6, none⟩ = some e.vv) := fun wx b => by
    have k1 := ((hb.later A1).later b).cells
    have k2 := bx.later b
    exact ⟨k1.1, k1.2.1, k2.vr, k2.fam, k2.vq, k2.ts, k2.seq, k2.kind, k2.vv⟩
  have HH : Hid (∀ wx, Below V.heap.size V wx → Calls Try.prog 32 #[.agg #[.pointer p, .func (.func 18) #[] #[]], .agg #[e.vr, .int .i64 e.fam, e.vq, .int .i64 e.ts, .int .i64 e.seq, .int .i64 e.kind, e.vv]] wx fun z w' => z = .returned (.bool false) ∧ Below wx.heap.size wx w') := fun wx b => by
    refine (has_any (hT.kept (KpG.of (A1.trans (b.mono A1.size)))) (he.later (A1.trans (b.mono A1.size))) hs).mono ?_
    rintro z w' ⟨q, rfl, hq, hb'⟩
    refine ⟨?_, hb'⟩
    have : q = false := by (cases q; rfl; exact absurd (hq.1 rfl) hd)
    rw [this]
  have HT : Hid (∀ wx, Below V.heap.size V wx → wx.cell? ⟨t, 4, none⟩ = some (.bool false)) := fun wx b => ((hb.later A1).later b).cells.2.2.2.2
  have HX : Hid (∀ wx, Below V.heap.size V wx → Calls Try.prog 34 #[.agg #[e.vr, .int .i64 e.fam, e.vq, .int .i64 e.ts, .int .i64 e.seq, .int .i64 e.kind, e.vv]] wx fun z w' => ∃ x : EntD, z = .returned (.agg x.cells) ∧ EntD.Same x e ∧ EOk (fun i => wx.heap.size ≤ i) w' x ∧ Below wx.heap.size wx w') := fun wx b => by
    have f := check_facts hc
    refine copyOf_any (he.later (A1.trans (b.mono A1.size))) ⟨?_, ?_, ?_⟩ <;> omega
  have HWI : Hid (∀ wx x, Below V.heap.size V wx → EOk (fun i => V.heap.size ≤ i) wx x → Calls Try.prog 33 #[.agg #[.pointer p, .func (.func 18) #[] #[]], .agg #[x.vr, .int .i64 x.fam, x.vq, .int .i64 x.ts, .int .i64 x.seq, .int .i64 x.kind, x.vv]] wx fun z w' => ∃ b, z = .returned (.agg #[.pointer (some ⟨b, 0, none⟩), .func (.func 18) #[] #[]]) ∧ IsT G w' (some ⟨b, 0, none⟩) (hangS x T) ∧ Below wx.heap.size wx w') := fun wx x b hx => with_any (hT.kept (KpG.of (A1.trans (b.mono A1.size)))) (hx.mono (fun i hi => hG i (Nat.le_trans A1.size hi))) (by omega) (fun i hi => hG i (by have := A1.size; have := b.size; omega))
  have HN : Hid (¬ G t ∧ t < w.heap.size ∧ TBox w t p n k false ∧ (packL e).length ≤ 20000) := ⟨hne, hb.lt, hb, packL_len he hc⟩
  unfold EntD.cells at HP HV
  unfold EntD.cells
  clear bx he hc hb hT hs hd hG hne
  go_enter Try.func9, Try.ntmps9
  go_wp2_with fail
  rw [← HV.out]
  go_wp2_with (go_at_call 17; refine Calls.mono HP.out ?_; rintro z w1 ⟨a, m, c, rfl, o1, hb1⟩; have t4 := HT.out _ hb1)
  have D0 : Below V.heap.size V w1.drew := hb1.drew
  go_region_held3 (fun wx => wx.cell? ⟨t, 0, none⟩ = some (.pointer p) ∧ wx.cell? ⟨t, 1, none⟩ = some (.func (.func 18) #[] #[]) ∧ wx.cell? ⟨w.heap.size, 0, none⟩ = some e.vr ∧ wx.cell? ⟨w.heap.size, 1, none⟩ = some (.int .i64 e.fam) ∧ wx.cell? ⟨w.heap.size, 2, none⟩ = some e.vq ∧ wx.cell? ⟨w.heap.size, 3, none⟩ = some (.int .i64 e.ts) ∧ wx.cell? ⟨w.heap.size, 4, none⟩ = some (.int .i64 e.seq) ∧ wx.cell? ⟨w.heap.size, 5, none⟩ = some (.int .i64 e.kind) ∧ wx.cell? ⟨w.heap.size, 6, none⟩ = some e.vv) (first | exact KS.out _ D0 | exact KS.out _ D1) (first | (go_at_call 32; refine Calls.mono (HH.out _ D0) ?_; rintro z w2 ⟨rfl, hb2⟩; have D1 := D0.trans (hb2.mono D0.size)))
  go_wp2_with fail
  obtain ⟨DD, hDD⟩ : ∃ DD : Below V.heap.size V w2.drew, True := ⟨D1.drew, trivial⟩
  refine wp_region_noPanic ?_
  refine wp_region_anyE (S := fun wx => wx.cell? ⟨t, 0, none⟩ = some (.pointer p) ∧ wx.cell? ⟨t, 1, none⟩ = some (.func (.func 18) #[] #[]) ∧ wx.cell? ⟨w.heap.size, 0, none⟩ = some e.vr ∧ wx.cell? ⟨w.heap.size, 1, none⟩ = some (.int .i64 e.fam) ∧ wx.cell? ⟨w.heap.size, 2, none⟩ = some e.vq ∧ wx.cell? ⟨w.heap.size, 3, none⟩ = some (.int .i64 e.ts) ∧ wx.cell? ⟨w.heap.size, 4, none⟩ = some (.int .i64 e.seq) ∧ wx.cell? ⟨w.heap.size, 5, none⟩ = some (.int .i64 e.kind) ∧ wx.cell? ⟨w.heap.size, 6, none⟩ = some e.vv) (E := fun j => decide (j < 8)) (by kernel_rfl) ?_
  have hS := KS.out _ DD
  refine AnyE.take (i := 0) (.pointer (some ⟨t, 0, none⟩)) rfl (by kernel_rfl) (by kernel_rfl) (by kernel_rfl) (by kernel_rfl) (fun _ _ _ h => h) (.inl ⟨by rfl, fun wq hq => by go_simp⟩) hS ?_
  refine AnyE.take (i := 1) (.pointer (some ⟨t, 0, none⟩)) rfl (by kernel_rfl) (by kernel_rfl) (by kernel_rfl) (by kernel_rfl) (fun _ _ _ h => h) (.inl ⟨by rfl, fun wq hq => by go_simp⟩) hS ?_
  refine AnyE.take (i := 2) (.pointer (some ⟨t, 0, none⟩)) rfl (by kernel_rfl) (by kernel_rfl) (by kernel_rfl) (by kernel_rfl) (fun _ _ _ h => h) (.inl ⟨by rfl, fun wq hq => by go_simp⟩) hS ?_
  refine AnyE.take (i := 3) (.pointer (some ⟨t, 0, none⟩)) rfl (by kernel_rfl) (by kernel_rfl) (by kernel_rfl) (by kernel_rfl) (fun _ _ _ h => h) (.inl ⟨by rfl, fun wq hq => by go_simp⟩) hS ?_
  refine AnyE.take (i := 4) (.agg #[.pointer p, .func (.func 18) #[] #[]]) rfl (by kernel_rfl) (by kernel_rfl) (by kernel_rfl) (by kernel_rfl) (fun _ _ _ h => h) (.inl ⟨by rfl, fun wq hq => by obtain ⟨q0, q1, d0, d1, d2, d3, d4, d5, d6⟩ := hq; go_simp⟩) hS ?_
  refine AnyE.take (i := 5) (.agg #[e.vr, .int .i64 e.fam, e.vq, .int .i64 e.ts, .int .i64 e.seq, .int .i64 e.kind, e.vv]) rfl (by kernel_rfl) (by kernel_rfl) (by kernel_rfl) (by kernel_rfl) (fun _ _ _ h => h) (.inl ⟨by rfl, fun wq hq => by obtain ⟨q0, q1, d0, d1, d2, d3, d4, d5, d6⟩ := hq; go_simp⟩) hS ?_
  show AnyE _ _ _ _ _ _ 5 #[true, true, true, true, true, true, false, false, false, false, false] ⟨#[.pointer (some ⟨t, 0, none⟩), .agg #[e.vr, .int .i64 e.fam, e.vq, .int .i64 e.ts, .int .i64 e.seq, .int .i64 e.kind, e.vv], undef, .pointer (some ⟨w.heap.size, 0, none⟩), .int .i64 0, .slice a m c, .int .i64 0, .tuple #[.slice a m c, .int .i64 0], .agg #[e.vr, .int .i64 e.fam, e.vq, .int .i64 e.ts, .int .i64 e.seq, .int .i64 e.kind, e.vv], .tuple #[.slice a m c, .int .i64 0], .slice a m c, .int .i64 0, .bool false, .int .i64 0, .bool false, undef, .bool false, .pointer (some ⟨t, 0, none⟩), .pointer (some ⟨t, 0, none⟩), .pointer (some ⟨t, 4, none⟩), .bool false, .bool false, .pointer (some ⟨t, 0, none⟩), .pointer (some ⟨t, 0, none⟩), .pointer (some ⟨t, 0, none⟩), .agg #[.pointer p, .func (.func 18) #[] #[]], .agg #[e.vr, .int .i64 e.fam, e.vq, .int .i64 e.ts, .int .i64 e.seq, .int .i64 e.kind, e.vv], .bool false, .pointer (some ⟨t, 0, none⟩), .pointer (some ⟨t, 0, none⟩), .pointer (some ⟨t, 0, none⟩), .pointer (some ⟨t, 0, none⟩), .agg #[.pointer p, .func (.func 18) #[] #[]], .agg #[e.vr, .int .i64 e.fam, e.vq, .int .i64 e.ts, .int .i64 e.seq, .int .i64 e.kind, e.vv], undef, undef, undef, undef, undef, undef, undef, undef, undef, undef, undef, undef, undef, undef, undef, undef, undef, undef, undef, undef], []⟩ _
  refine AnyE.one (i := 6) rfl (by kernel_rfl) (by rfl) (fun K6 hK6 => ?_)
  go_simp
  refine Calls.mono (HX.out _ DD) ?_
  rintro z3 w3 ⟨x, rfl, hsx, hox, hb3⟩
  have D3 := DD.trans (hb3.mono DD.size)
  refine hK6.out _ _ ⟨fun _ => KS.out _ D3, ?_⟩
  clear hK6
  show AnyE _ _ _ _ _ _ 4 #[true, true, true, true, true, true, true, false, false, false, false] ⟨#[.pointer (some ⟨t, 0, none⟩), .agg #[e.vr, .int .i64 e.fam, e.vq, .int .i64 e.ts, .int .i64 e.seq, .int .i64 e.kind, e.vv], undef, .pointer (some ⟨w.heap.size, 0, none⟩), .int .i64 0, .slice a m c, .int .i64 0, .tuple #[.slice a m c, .int .i64 0], .agg #[e.vr, .int .i64 e.fam, e.vq, .int .i64 e.ts, .int .i64 e.seq, .int .i64 e.kind, e.vv], .tuple #[.slice a m c, .int .i64 0], .slice a m c, .int .i64 0, .bool false, .int .i64 0, .bool false, undef, .bool false, .pointer (some ⟨t, 0, none⟩), .pointer (some ⟨t, 0, none⟩), .pointer (some ⟨t, 4, none⟩), .bool false, .bool false, .pointer (some ⟨t, 0, none⟩), .pointer (some ⟨t, 0, none⟩), .pointer (some ⟨t, 0, none⟩), .agg #[.pointer p, .func (.func 18) #[] #[]], .agg #[e.vr, .int .i64 e.fam, e.vq, .int .i64 e.ts, .int .i64 e.seq, .int .i64 e.kind, e.vv], .bool false, .pointer (some ⟨t, 0, none⟩), .pointer (some ⟨t, 0, none⟩), .pointer (some ⟨t, 0, none⟩), .pointer (some ⟨t, 0, none⟩), .agg #[.pointer p, .func (.func 18) #[] #[]], .agg #[e.vr, .int .i64 e.fam, e.vq, .int .i64 e.ts, .int .i64 e.seq, .int .i64 e.kind, e.vv], .agg #[x.vr, .int .i64 x.fam, x.vq, .int .i64 x.ts, .int .i64 x.seq, .int .i64 x.kind, x.vv], undef, undef, undef, undef, undef, undef, undef, undef, undef, undef, undef, undef, undef, undef, undef, undef, undef, undef, undef], []⟩ _
  refine AnyE.one (i := 7) rfl (by kernel_rfl) (by rfl) (fun K7 hK7 => ?_)
  go_simp
  refine Calls.mono (HWI.out _ x D3 (hox.mono (fun i hi => Nat.le_trans DD.size hi))) ?_
  rintro z4 w4 ⟨b, rfl, ht4, hb4⟩
  have D4 := D3.trans (hb4.mono D3.size)
  refine hK7.out _ _ ⟨fun _ => KS.out _ D4, ?_⟩
  clear hK7
  have TB4 := (HN.out.2.2.1.later A1).later D4
  have t0 := TB4.cells.1
  have t1 := TB4.cells.2.1
  have f0 := TB4.fz 0
  have f1 := TB4.fz 1
  show AnyE _ _ _ _ _ _ 3 #[true, true, true, true, true, true, true, true, false, false, false] ⟨#[.pointer (some ⟨t, 0, none⟩), .agg #[e.vr, .int .i64 e.fam, e.vq, .int .i64 e.ts, .int .i64 e.seq, .int .i64 e.kind, e.vv], undef, .pointer (some ⟨w.heap.size, 0, none⟩), .int .i64 0, .slice a m c, .int .i64 0, .tuple #[.slice a m c, .int .i64 0], .agg #[e.vr, .int .i64 e.fam, e.vq, .int .i64 e.ts, .int .i64 e.seq, .int .i64 e.kind, e.vv], .tuple #[.slice a m c, .int .i64 0], .slice a m c, .int .i64 0, .bool false, .int .i64 0, .bool false, undef, .bool false, .pointer (some ⟨t, 0, none⟩), .pointer (some ⟨t, 0, none⟩), .pointer (some ⟨t, 4, none⟩), .bool false, .bool false, .pointer (some ⟨t, 0, none⟩), .pointer (some ⟨t, 0, none⟩), .pointer (some ⟨t, 0, none⟩), .agg #[.pointer p, .func (.func 18) #[] #[]], .agg #[e.vr, .int .i64 e.fam, e.vq, .int .i64 e.ts, .int .i64 e.seq, .int .i64 e.kind, e.vv], .bool false, .pointer (some ⟨t, 0, none⟩), .pointer (some ⟨t, 0, none⟩), .pointer (some ⟨t, 0, none⟩), .pointer (some ⟨t, 0, none⟩), .agg #[.pointer p, .func (.func 18) #[] #[]], .agg #[e.vr, .int .i64 e.fam, e.vq, .int .i64 e.ts, .int .i64 e.seq, .int .i64 e.kind, e.vv], .agg #[x.vr, .int .i64 x.fam, x.vq, .int .i64 x.ts, .int .i64 x.seq, .int .i64 x.kind, x.vv], .agg #[.pointer (some ⟨b, 0, none⟩), .func (.func 18) #[] #[]], undef, undef, undef, undef, undef, undef, undef, undef, undef, undef, undef, undef, undef, undef, undef, undef, undef, undef], []⟩ _
  refine AnyE.one (i := 8) rfl (by kernel_rfl) (by rfl) (fun K hK => ?_)
  go_simp
  refine hK.out _ _ ⟨fun h => (by cases h), ?_⟩
  clear hK
  show AnyE _ _ _ _ _ _ 2 #[true, true, true, true, true, true, true, true, true, false, false] ⟨#[.pointer (some ⟨t, 0, none⟩), .agg #[e.vr, .int .i64 e.fam, e.vq, .int .i64 e.ts, .int .i64 e.seq, .int .i64 e.kind, e.vv], undef, .pointer (some ⟨w.heap.size, 0, none⟩), .int .i64 0, .slice a m c, .int .i64 0, .tuple #[.slice a m c, .int .i64 0], .agg #[e.vr, .int .i64 e.fam, e.vq, .int .i64 e.ts, .int .i64 e.seq, .int .i64 e.kind, e.vv], .tuple #[.slice a m c, .int .i64 0], .slice a m c, .int .i64 0, .bool false, .int .i64 0, .bool false, undef, .bool false, .pointer (some ⟨t, 0, none⟩), .pointer (some ⟨t, 0, none⟩), .pointer (some ⟨t, 4, none⟩), .bool false, .bool false, .pointer (some ⟨t, 0, none⟩), .pointer (some ⟨t, 0, none⟩), .pointer (some ⟨t, 0, none⟩), .agg #[.pointer p, .func (.func 18) #[] #[]], .agg #[e.vr, .int .i64 e.fam, e.vq, .int .i64 e.ts, .int .i64 e.seq, .int .i64 e.kind, e.vv], .bool false, .pointer (some ⟨t, 0, none⟩), .pointer (some ⟨t, 0, none⟩), .pointer (some ⟨t, 0, none⟩), .pointer (some ⟨t, 0, none⟩), .agg #[.pointer p, .func (.func 18) #[] #[]], .agg #[e.vr, .int .i64 e.fam, e.vq, .int .i64 e.ts, .int .i64 e.seq, .int .i64 e.kind, e.vv], .agg #[x.vr, .int .i64 x.fam, x.vq, .int .i64 x.ts, .int .i64 x.seq, .int .i64 x.kind, x.vv], .agg #[.pointer (some ⟨b, 0, none⟩), .func (.func 18) #[] #[]], .pointer (some ⟨t, 0, none⟩), undef, undef, undef, undef, undef, undef, undef, undef, undef, undef, undef, undef, undef, undef, undef, undef, undef], []⟩ w4
  refine AnyE.one (i := 9) rfl (by kernel_rfl) (by rfl) (fun K hK => ?_)
  go_simp
  refine hK.out _ _ ⟨fun h => (by cases h), ?_⟩
  clear hK
  show AnyE _ _ _ _ _ _ 1 #[true, true, true, true, true, true, true, true, true, true, false] ⟨#[.pointer (some ⟨t, 0, none⟩), .agg #[e.vr, .int .i64 e.fam, e.vq, .int .i64 e.ts, .int .i64 e.seq, .int .i64 e.kind, e.vv], undef, .pointer (some ⟨w.heap.size, 0, none⟩), .int .i64 0, .slice a m c, .int .i64 0, .tuple #[.slice a m c, .int .i64 0], .agg #[e.vr, .int .i64 e.fam, e.vq, .int .i64 e.ts, .int .i64 e.seq, .int .i64 e.kind, e.vv], .tuple #[.slice a m c, .int .i64 0], .slice a m c, .int .i64 0, .bool false, .int .i64 0, .bool false, undef, .bool false, .pointer (some ⟨t, 0, none⟩), .pointer (some ⟨t, 0, none⟩), .pointer (some ⟨t, 4, none⟩), .bool false, .bool false, .pointer (some ⟨t, 0, none⟩), .pointer (some ⟨t, 0, none⟩), .pointer (some ⟨t, 0, none⟩), .agg #[.pointer p, .func (.func 18) #[] #[]], .agg #[e.vr, .int .i64 e.fam, e.vq, .int .i64 e.ts, .int .i64 e.seq, .int .i64 e.kind, e.vv], .bool false, .pointer (some ⟨t, 0, none⟩), .pointer (some ⟨t, 0, none⟩), .pointer (some ⟨t, 0, none⟩), .pointer (some ⟨t, 0, none⟩), .agg #[.pointer p, .func (.func 18) #[] #[]], .agg #[e.vr, .int .i64 e.fam, e.vq, .int .i64 e.ts, .int .i64 e.seq, .int .i64 e.kind, e.vv], .agg #[x.vr, .int .i64 x.fam, x.vq, .int .i64 x.ts, .int .i64 x.seq, .int .i64 x.kind, x.vv], .agg #[.pointer (some ⟨b, 0, none⟩), .func (.func 18) #[] #[]], .pointer (some ⟨t, 0, none⟩), .pointer (some ⟨t, 0, none⟩), undef, undef, undef, undef, undef, undef, undef, undef, undef, undef, undef, undef, undef, undef, undef, undef], []⟩ w4
  refine AnyE.one (i := 10) rfl (by kernel_rfl) (by rfl) (fun K hK => ?_)
  go_simp
  refine hK.out _ _ ⟨fun h => (by cases h), ?_⟩
  clear hK
  show AnyE _ _ _ _ _ _ 0 #[true, true, true, true, true, true, true, true, true, true, true] ⟨#[.pointer (some ⟨t, 0, none⟩), .agg #[e.vr, .int .i64 e.fam, e.vq, .int .i64 e.ts, .int .i64 e.seq, .int .i64 e.kind, e.vv], undef, .pointer (some ⟨w.heap.size, 0, none⟩), .int .i64 0, .slice a m c, .int .i64 0, .tuple #[.slice a m c, .int .i64 0], .agg #[e.vr, .int .i64 e.fam, e.vq, .int .i64 e.ts, .int .i64 e.seq, .int .i64 e.kind, e.vv], .tuple #[.slice a m c, .int .i64 0], .slice a m c, .int .i64 0, .bool false, .int .i64 0, .bool false, undef, .bool false, .pointer (some ⟨t, 0, none⟩), .pointer (some ⟨t, 0, none⟩), .pointer (some ⟨t, 4, none⟩), .bool false, .bool false, .pointer (some ⟨t, 0, none⟩), .pointer (some ⟨t, 0, none⟩), .pointer (some ⟨t, 0, none⟩), .agg #[.pointer p, .func (.func 18) #[] #[]], .agg #[e.vr, .int .i64 e.fam, e.vq, .int .i64 e.ts, .int .i64 e.seq, .int .i64 e.kind, e.vv], .bool false, .pointer (some ⟨t, 0, none⟩), .pointer (some ⟨t, 0, none⟩), .pointer (some ⟨t, 0, none⟩), .pointer (some ⟨t, 0, none⟩), .agg #[.pointer p, .func (.func 18) #[] #[]], .agg #[e.vr, .int .i64 e.fam, e.vq, .int .i64 e.ts, .int .i64 e.seq, .int .i64 e.kind, e.vv], .agg #[x.vr, .int .i64 x.fam, x.vq, .int .i64 x.ts, .int .i64 x.seq, .int .i64 x.kind, x.vv], .agg #[.pointer (some ⟨b, 0, none⟩), .func (.func 18) #[] #[]], .pointer (some ⟨t, 0, none⟩), .pointer (some ⟨t, 0, none⟩), undef, undef, undef, undef, undef, undef, undef, undef, undef, undef, undef, undef, undef, undef, undef, undef], []⟩ ((w4.setCell ⟨t, 0, none⟩ (.pointer (some ⟨b, 0, none⟩))).setCell ⟨t, 1, none⟩ (.func (.func 18) #[] #[]))
  refine AnyE.done (by kernel_rfl) (NoPanic.normal ?_) _
  have TB5 := (TB4.set0 (some ⟨b, 0, none⟩)).set1
  have HT5 : Hid (IsT G ((w4.setCell ⟨t, 0, none⟩ (.pointer (some ⟨b, 0, none⟩))).setCell ⟨t, 1, none⟩ (.func (.func 18) #[] #[])) (some ⟨b, 0, none⟩) (hangS x T)) := ht4.kept (((KpG.refl G w4).setCell HN.out.1 0 _).setCell HN.out.1 1 _)
  have HA5 : Hid (Apart t w ((w4.setCell ⟨t, 0, none⟩ (.pointer (some ⟨b, 0, none⟩))).setCell ⟨t, 1, none⟩ (.func (.func 18) #[] #[]))) := ((Apart.of (A1.trans (D4.mono A1.size))).setT 0 _).setT 1 _
  generalize ((w4.setCell ⟨t, 0, none⟩ (.pointer (some ⟨b, 0, none⟩))).setCell ⟨t, 1, none⟩ (.func (.func 18) #[] #[])) = W5 at *
  have HTB : Hid (TBox W5 t (some ⟨b, 0, none⟩) n k false) := TB5
  have u2 := TB5.cells.2.2.1
  have u3 := TB5.cells.2.2.2.1
  have g2 := TB5.fz 2
  have g3 := TB5.fz 3
  have HM : Hid (m = (packL e).length) := o1.len
  have hm : m ≤ 20000 := by rw [HM.out]; exact HN.out.2.2.2
  have hn0 := hn.1
  have hn1 := hn.2
  have hk0 := hk.1
  have hk1 := hk.2
  have wn : IntKind.i64.wrap (n + 1) = n + 1 := wrap_ok _ (by omega) (by omega)
  have wk : IntKind.i64.wrap (k + (m : Int)) = k + (m : Int) := wrap_ok _ (by omega) (by omega)
  clear TB4 TB5 t0 t1 f0 f1 ht4 o1 hS t4 hb1 hb2 hb3 hb4 D0 D1 D3 D4 DD hDD KS HX HWI HH HT HP HV c0 c1 c2 c3 c4 c5 c6 hn hk hox
  go_wp2
  go_ret
  rw [HM.out]
  exact ⟨rfl, (HA5.out.setT 2 _).setT 3 _, _, x, hsx, ((HTB.out.set2 (n + 1)).set3 _), HT5.out.kept (((KpG.refl G W5).setCell HN.out.1 2 _).setCell HN.out.1 3 _)⟩

end Go.Proofs.Ytnjopfdeapclhaa

namespace Go.Proofs.Ytnjopfdeapclhaa
open Go.RowKit Go.Shelf
set_option linter.unusedVariables false
attribute [local go_sem] Oper.semAt_some

theorem und_ents : Try.prog.underlying 22 = some (.slice 30) := by kernel_rfl
theorem info_ent : (Try.prog.info? 30).map (fun i => (i.zero, i.size, i.bytes)) = some (some (.agg #[.slice none 0 0, .int .i64 0, .slice none 0 0, .int .i64 0, .int .i64 0, .int .i64 0, .slice none 0 0]), 7, 104) := by kernel_rfl
/-- The cells of entries. -/
def evals (xs : List EntD) : List Value := (xs.map fun e => e.cells.toList).flatten
theorem evals_snoc (xs : List EntD) (x : EntD) : evals (xs ++ [x]) = evals xs ++ x.cells.toList := by simp [evals]
theorem ownsRow_turn {B B' s n : Nat} {e : TypeId} {v : Value} {xs : List Value} {w w' : World} (h : w.ownsRow B e s v n xs) (t : Turn B' w w') : w'.ownsRow B e s v n xs := by
  refine ⟨h.1, ?_⟩
  rcases h.2 with h2 | ⟨g, cap, cur, h3, h4, h5, h6⟩
  · exact .inl h2
  · exact .inr ⟨g, cap, cur, h3, h4, t.cells _ _ h5 rfl, h6⟩

/-- A table that holds these entries. -/
structure Tb (G : Nat → Prop) (w : World) (t : Nat) (L : List EntD) (k : Int) (f : Bool) : Prop where
  not : ¬ G t
  srt : Srt L
  good : ∀ x ∈ L, checkS x = 0
  few : 0 ≤ k ∧ k ≤ 20000 * (L.length : Int)
  tree : ∃ p T, TBox w t p (L.length : Int) k f ∧ IsT G w p T ∧ T.ord = L
theorem Tb.lens {G : Nat → Prop} {w : World} {t : Nat} {L : List EntD} {k : Int} {f : Bool} (h : Tb G w t L k f) : ∀ x ∈ L, x.row.length ≤ 140737488355328 ∧ x.qual.length ≤ 140737488355328 ∧ x.val.length ≤ 140737488355328 := fun x hx => by
  have c := check_facts (h.good x hx)
  refine ⟨?_, ?_, ?_⟩ <;> omega
theorem checkS_same {a b : EntD} (h : EntD.Same a b) : checkS a = checkS b := by
  obtain ⟨h1, h2, h3, h4, h5, h6, h7⟩ := h
  unfold checkS
  rw [h1, h2, h3, h4, h5, h6, h7]
theorem Tb.later {G : Nat → Prop} {w w' : World} {t : Nat} {L : List EntD} {k : Int} {f : Bool} (h : Tb G w t L k f) (hb : Below w.heap.size w w') : Tb G w' t L k f := by
  obtain ⟨p, T, h1, h2, h3⟩ := h.tree
  exact ⟨h.not, h.srt, h.good, h.few, p, T, h1.later hb, h2.kept (KpG.of hb), h3⟩
theorem Tb.turn {G : Nat → Prop} {B : Nat} {w w' : World} {t : Nat} {L : List EntD} {k : Int} {f : Bool} (h : Tb G w t L k f) (hb : Turn B w w') : Tb G w' t L k f := by
  obtain ⟨p, T, h1, h2, h3⟩ := h.tree
  exact ⟨h.not, h.srt, h.good, h.few, p, T, hb.cells _ _ h1 rfl, h2.keptC hb.toC, h3⟩

/-- What Add does. -/
theorem add_tb {G : Nat → Prop} {w : World} {t : Nat} {L : List EntD} {k : Int} {f : Bool} {e : EntD} (hb : Tb G w t L k f) (he : EntD.Ok w e) (hG : ∀ i, w.heap.size ≤ i → G i) (hsz : L.length < 1000000000) :
    Calls Try.prog 9 #[.pointer (some ⟨t, 0, none⟩), .agg e.cells] w fun z w' => ∃ c : Nat, z = .returned (.int .i64 (c : Int)) ∧ Apart t w w' ∧
      ((c ≠ 0 ∧ Tb G w' t L k f ∧ (checkS e = 0 → f = false → (∃ y ∈ L, compareS e y = 0) ∧ c = 80)) ∨ (c = 0 ∧ checkS e = 0 ∧ f = false ∧ (¬ ∃ y ∈ L, compareS e y = 0) ∧ ∃ A B x, L = A ++ B ∧ EntD.Same x e ∧ Tb G w' t (A ++ x :: B) (k + ((packL e).length : Nat)) f)) := by
  obtain ⟨p, T, h1, h2, h3⟩ := hb.tree
  by_cases hc : checkS e = 0
  · cases f with
    | true =>
      refine (add_cold h1 he hc).mono ?_
      rintro z w' ⟨rfl, hw⟩
      exact ⟨81, rfl, Apart.of hw, .inl ⟨by decide, hb.later hw, fun _ h => (by cases h)⟩⟩
    | false =>
      have hs : Srt T.ord := by rw [h3]; exact hb.srt
      by_cases hd : ∃ y ∈ L, compareS e y = 0
      · refine (add_there h1 h2 hs he hc (by rw [h3]; exact hd)).mono ?_
        rintro z w' ⟨rfl, hw⟩
        exact ⟨80, rfl, Apart.of hw, .inl ⟨by decide, hb.later hw, fun _ _ => ⟨hd, rfl⟩⟩⟩
      · have hf := hb.few
        refine (add_ok h1 h2 hs he hc (by rw [h3]; exact hd) hb.not hG (by rw [h3]; omega) ⟨by omega, by omega⟩ ⟨hf.1, by omega⟩).mono ?_
        rintro z w' ⟨rfl, hap, p', x, hsx, hb', hT'⟩
        obtain ⟨A, B, e1, e2, e3, e4⟩ := hangS_ord x T hs
        rw [h3] at e1
        have hl := packL_len he hc
        refine ⟨0, rfl, hap, .inr ⟨rfl, hc, rfl, hd, A, B, x, e1, hsx, hb.not, ?_, ?_, ?_, p', _, ?_, hT', e2⟩⟩
        · refine srt_ins (by rw [← e1]; exact hb.srt) (fun a ha => ?_) e4
          have h0 : compareS x a ≠ 0 := fun h0 => hd ⟨a, by rw [e1]; simp [ha], by rw [← compareS_same hsx (show EntD.Same a a from ⟨rfl, rfl, rfl, rfl, rfl, rfl, rfl⟩)]; exact h0⟩
          have := e3 a ha
          omega
        · intro y hy
          simp only [List.mem_append, List.mem_cons] at hy
          rcases hy with hy | rfl | hy
          · exact hb.good y (by rw [e1]; simp [hy])
          · rw [checkS_same hsx]; exact hc
          · exact hb.good y (by rw [e1]; simp [hy])
        · have : (A ++ x :: B).length = L.length + 1 := by rw [e1]; simp; omega
          rw [this]
          omega
        · have : (A ++ x :: B).length = L.length + 1 := by rw [e1]; simp; omega
          rw [this]
          exact hb'
  · refine (add_bad he hc).mono ?_
    rintro z w' ⟨rfl, hw⟩
    exact ⟨checkS e, rfl, Apart.of hw, .inl ⟨hc, hb.later hw, fun h => absurd h hc⟩⟩
end Go.Proofs.Ytnjopfdeapclhaa
