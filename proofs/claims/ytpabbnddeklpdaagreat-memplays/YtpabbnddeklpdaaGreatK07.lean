import Derived.Test.YtpabbnddeklpdaaGreatK06
namespace Go.Proofs.YtpabbnddeklpdaaGreat
open Go.RowKit
set_option linter.unusedVariables false

set_option maxRecDepth 100000 in
set_option maxHeartbeats 8000000 in
theorem hang_any {G : Nat → Prop} {p0 : Option Addr} {x : EntD} (T : BT) : ∀ (w : World) (p : Option Addr), IsT G w p T → EOk G w x → T.ord.length < 274877906944 → (∀ i, w.heap.size ≤ i → G i) →
  Calls Tryz.prog 56 #[ordV p0, .pointer p, .agg x.cells] w fun z w' => ∃ b, z = .returned (.pointer (some ⟨b, 0, none⟩)) ∧ IsT G w' (some ⟨b, 0, none⟩) (hangS x T) ∧ Below w.heap.size w w' := by
 unfold ordV
 induction T with
 | leaf =>
  intro w p hT hx hs hG
  obtain rfl : p = none := hT
  have A1 := (Below.refl w.heap.size w).alloc (Nat.le_refl _) (.cells #[.pointer p0, .func (.func 22) #[] #[]] 61)
  have A2 := A1.alloc A1.size (.cells x.cells 38)
  have bo := (OBox.new w p0).later ((Below.refl (w.alloc (.cells #[.pointer p0, .func (.func 22) #[] #[]] 61)).heap.size _).alloc (Nat.le_refl _) (.cells x.cells 38))
  have bx := EBox.new (w.alloc (.cells #[.pointer p0, .func (.func 22) #[] #[]] 61)) x
  rw [World.size_alloc] at bx
  obtain ⟨W, hW⟩ : ∃ W, W = (w.alloc (.cells #[.pointer p0, .func (.func 22) #[] #[]] 61)).alloc (.cells x.cells 38) := ⟨_, rfl⟩
  rw [← hW] at A2 bx bo
  have HW : Hid (W = _) := hW
  clear hW A1
  unfold EntD.cells at HW
  have HJ : Hid (Calls Tryz.prog 81 #[.pointer none, .agg x.cells, .pointer none] W _) := join_tree (l := .leaf) (r := .leaf) (G := G) rfl rfl (hx.kept (KpG.of A2)) (by simp [BT.ht]) (fun i hi => hG i (Nat.le_trans A2.size hi))
  obtain ⟨c0, c1, c2, c3, c4, c5, c6⟩ := (⟨bx.vr, bx.fam, bx.vq, bx.ts, bx.seq, bx.kind, bx.vv⟩ : _ ∧ _ ∧ _ ∧ _ ∧ _ ∧ _ ∧ _)
  unfold EntD.cells at HJ
  unfold EntD.cells
  clear hx hG bx bo hs
  go_enter Tryz.func56, Tryz.ntmps56
  go_wp2_with fail
  rw [← HW.out]
  go_wp2_with (go_at_call 81; refine Calls.mono HJ.out ?_; rintro e1 w1 ⟨b, rfl, ht, hb⟩)
  go_ret
  exact ⟨b, rfl, ht, A2.trans (hb.mono A2.size)⟩
 | node l e r ihl ihr =>
  intro w p hT hx hs hG
  have A1 := (Below.refl w.heap.size w).alloc (Nat.le_refl _) (.cells #[.pointer p0, .func (.func 22) #[] #[]] 61)
  have A2 := A1.alloc A1.size (.cells x.cells 38)
  have bo := (OBox.new w p0).later ((Below.refl (w.alloc (.cells #[.pointer p0, .func (.func 22) #[] #[]] 61)).heap.size _).alloc (Nat.le_refl _) (.cells x.cells 38))
  have bx := EBox.new (w.alloc (.cells #[.pointer p0, .func (.func 22) #[] #[]] 61)) x
  rw [World.size_alloc] at bx
  obtain ⟨W, hW⟩ : ∃ W, W = (w.alloc (.cells #[.pointer p0, .func (.func 22) #[] #[]] 61)).alloc (.cells x.cells 38) := ⟨_, rfl⟩
  rw [← hW] at A2 bx bo
  have HW : Hid (W = _) := hW
  clear hW A1
  unfold EntD.cells at HW
  have hx0 := hx.kept (KpG.of A2)
  obtain ⟨b, pl, pr, rfl, hb, hn, he, hl, hr⟩ := hT.kept (KpG.of A2)
  have HG : Hid (∀ i, w.heap.size ≤ i → G i) := hG
  have hl0 := hl
  have hr0 := hr
  have he0 := he
  have KS : Hid (∀ wx, Below W.heap.size W wx → wx.cell? ⟨w.heap.size, 0, none⟩ = some (.pointer p0) ∧ wx.cell? ⟨w.heap.size, 1, none⟩ = some (.func (.func 22) #[] #[]) ∧ wx.cell? ⟨w.heap.size + 1, 0, none⟩ = some x.vr ∧ wx.cell? ⟨w.heap.size + 1, 1, none⟩ = some (.int .i64 x.fam) ∧ wx.cell? ⟨w.heap.size + 1, 2, none⟩ = some x.vq ∧ wx.cell? ⟨w.heap.size + 1, 3, none⟩ = some (.int .i64 x.ts) ∧ wx.cell? ⟨w.heap.size + 1, 4, none⟩ = some (.int .i64 x.seq) ∧ wx.cell? ⟨w.heap.size + 1, 5, none⟩ = some (.int .i64 x.kind) ∧ wx.cell? ⟨w.heap.size + 1, 6, none⟩ = some x.vv ∧ wx.cell? ⟨b, 0, none⟩ = some e.vr ∧ wx.cell? ⟨b, 1, none⟩ = some (.int .i64 e.fam) ∧ wx.cell? ⟨b, 2, none⟩ = some e.vq ∧ wx.cell? ⟨b, 3, none⟩ = some (.int .i64 e.ts) ∧ wx.cell? ⟨b, 4, none⟩ = some (.int .i64 e.seq) ∧ wx.cell? ⟨b, 5, none⟩ = some (.int .i64 e.kind) ∧ wx.cell? ⟨b, 6, none⟩ = some e.vv ∧ wx.cell? ⟨b, 7, none⟩ = some (.pointer pl) ∧ wx.cell? ⟨b, 8, none⟩ = some (.pointer pr)) := fun wx b => by
   have k1 := bo.later b
   have k2 := bx.later b
   have k3 := (show NBox wx _ _ _ _ _ from (b.block _ hn.lt).trans hn).cells
   exact ⟨k1.c0, k1.c1, k2.vr, k2.fam, k2.vq, k2.ts, k2.seq, k2.kind, k2.vv, k3.1, k3.2.1, k3.2.2.1, k3.2.2.2.1, k3.2.2.2.2.1, k3.2.2.2.2.2.1, k3.2.2.2.2.2.2.1, k3.2.2.2.2.2.2.2.1, k3.2.2.2.2.2.2.2.2.1⟩
  have HC : Hid (∀ wx, Below W.heap.size W wx → Calls Tryz.prog 22 #[.agg #[x.vr, .int .i64 x.fam, x.vq, .int .i64 x.ts, .int .i64 x.seq, .int .i64 x.kind, x.vv], .agg #[e.vr, .int .i64 e.fam, e.vq, .int .i64 e.ts, .int .i64 e.seq, .int .i64 e.kind, e.vv]] wx fun r w' => r = .returned (.int .i64 (compareS x e)) ∧ Below wx.heap.size wx w') := fun wx b => compare_any (hx0.ok.later b) (he.ok.later b)
  have D0 : Below W.heap.size W W.drew := (Below.refl _ _).drew
  obtain ⟨cc, hcc⟩ : ∃ cc, cc = compareS x e := ⟨_, rfl⟩
  rw [← hcc] at HC
  have HCC : Hid (cc = compareS x e) := hcc
  unfold EntD.cells at ihl ihr
  unfold EntD.cells
  clear hcc hn he hl hr hx hG hT bo bx
  go_enter Tryz.func56, Tryz.ntmps56
  go_wp2_with fail
  rw [← HW.out]
  go_wp2_with fail
  go_region_held3 (fun wx => wx.cell? ⟨w.heap.size, 0, none⟩ = some (.pointer p0) ∧ wx.cell? ⟨w.heap.size, 1, none⟩ = some (.func (.func 22) #[] #[]) ∧ wx.cell? ⟨w.heap.size + 1, 0, none⟩ = some x.vr ∧ wx.cell? ⟨w.heap.size + 1, 1, none⟩ = some (.int .i64 x.fam) ∧ wx.cell? ⟨w.heap.size + 1, 2, none⟩ = some x.vq ∧ wx.cell? ⟨w.heap.size + 1, 3, none⟩ = some (.int .i64 x.ts) ∧ wx.cell? ⟨w.heap.size + 1, 4, none⟩ = some (.int .i64 x.seq) ∧ wx.cell? ⟨w.heap.size + 1, 5, none⟩ = some (.int .i64 x.kind) ∧ wx.cell? ⟨w.heap.size + 1, 6, none⟩ = some x.vv ∧ wx.cell? ⟨b, 0, none⟩ = some e.vr ∧ wx.cell? ⟨b, 1, none⟩ = some (.int .i64 e.fam) ∧ wx.cell? ⟨b, 2, none⟩ = some e.vq ∧ wx.cell? ⟨b, 3, none⟩ = some (.int .i64 e.ts) ∧ wx.cell? ⟨b, 4, none⟩ = some (.int .i64 e.seq) ∧ wx.cell? ⟨b, 5, none⟩ = some (.int .i64 e.kind) ∧ wx.cell? ⟨b, 6, none⟩ = some e.vv ∧ wx.cell? ⟨b, 7, none⟩ = some (.pointer pl) ∧ wx.cell? ⟨b, 8, none⟩ = some (.pointer pr)) (first | exact KS.out _ D0 | exact KS.out _ D1) (first | (go_at_call 22; refine Calls.mono (HC.out _ D0) ?_; rintro e1 w1 ⟨rfl, hb1⟩; have D1 := D0.trans (hb1.mono D0.size)))
  have HD1 : Hid (Below W.heap.size W w1) := D1
  have KS1 : Hid (∀ wx, Below w1.heap.size w1 wx → wx.cell? ⟨w.heap.size, 0, none⟩ = some (.pointer p0) ∧ wx.cell? ⟨w.heap.size, 1, none⟩ = some (.func (.func 22) #[] #[]) ∧ wx.cell? ⟨w.heap.size + 1, 0, none⟩ = some x.vr ∧ wx.cell? ⟨w.heap.size + 1, 1, none⟩ = some (.int .i64 x.fam) ∧ wx.cell? ⟨w.heap.size + 1, 2, none⟩ = some x.vq ∧ wx.cell? ⟨w.heap.size + 1, 3, none⟩ = some (.int .i64 x.ts) ∧ wx.cell? ⟨w.heap.size + 1, 4, none⟩ = some (.int .i64 x.seq) ∧ wx.cell? ⟨w.heap.size + 1, 5, none⟩ = some (.int .i64 x.kind) ∧ wx.cell? ⟨w.heap.size + 1, 6, none⟩ = some x.vv ∧ wx.cell? ⟨b, 0, none⟩ = some e.vr ∧ wx.cell? ⟨b, 1, none⟩ = some (.int .i64 e.fam) ∧ wx.cell? ⟨b, 2, none⟩ = some e.vq ∧ wx.cell? ⟨b, 3, none⟩ = some (.int .i64 e.ts) ∧ wx.cell? ⟨b, 4, none⟩ = some (.int .i64 e.seq) ∧ wx.cell? ⟨b, 5, none⟩ = some (.int .i64 e.kind) ∧ wx.cell? ⟨b, 6, none⟩ = some e.vv ∧ wx.cell? ⟨b, 7, none⟩ = some (.pointer pl) ∧ wx.cell? ⟨b, 8, none⟩ = some (.pointer pr)) := fun wx b => KS.out wx (HD1.out.trans (b.mono HD1.out.size))
  clear D1 HC D0 hb1
  by_cases h1 : cc < 0
  ·have d1 : decide (cc < 0) = true := by simpa using h1
   ·
    have HB : Hid (∀ wx b1, Below w1.heap.size w1 wx → IsT G wx (some ⟨b1, 0, none⟩) (hangS x l) → Calls Tryz.prog 82 #[.pointer (some ⟨b1, 0, none⟩), .agg #[e.vr, .int .i64 e.fam, e.vq, .int .i64 e.ts, .int .i64 e.seq, .int .i64 e.kind, e.vv], .pointer pr] wx fun z w' => ∃ b, z = .returned (.pointer (some ⟨b, 0, none⟩)) ∧ IsT G w' (some ⟨b, 0, none⟩) (balS (hangS x l) e r) ∧ Below wx.heap.size wx w') := fun wx b1 b t1 => by
     have bW := (Below.refl W.heap.size W).trans (HD1.out)
     refine balance_any t1 (hr0.kept (KpG.of (bW.trans (b.mono bW.size)))) (he0.kept (KpG.of (bW.trans (b.mono bW.size)))) ?_ (fun i hi => HG.out i (Nat.le_trans (Nat.le_trans (Nat.le_trans A2.size HD1.out.size) b.size) hi))
     have e1 := BT.ht_le (hangS x l)
     have e2 := BT.ht_le r
     have e3 := hangS_length x l
     simp only [BT.size, BT.ord, List.length_append, List.length_cons] at *
     omega
    have HH : Hid (∀ wx, Below w1.heap.size w1 wx → Calls Tryz.prog 56 #[.agg #[.pointer p0, .func (.func 22) #[] #[]], .pointer pl, .agg #[x.vr, .int .i64 x.fam, x.vq, .int .i64 x.ts, .int .i64 x.seq, .int .i64 x.kind, x.vv]] wx fun z w' => ∃ b, z = .returned (.pointer (some ⟨b, 0, none⟩)) ∧ IsT G w' (some ⟨b, 0, none⟩) (hangS x l) ∧ Below wx.heap.size wx w') := fun wx b => by
     have bW := (Below.refl W.heap.size W).trans (HD1.out)
     refine ihl wx pl (hl0.kept (KpG.of (bW.trans (b.mono bW.size)))) (hx0.kept (KpG.of (bW.trans (b.mono bW.size)))) ?_ (fun i hi => HG.out i (Nat.le_trans (Nat.le_trans (Nat.le_trans A2.size HD1.out.size) b.size) hi))
     simp only [BT.ord, List.length_append, List.length_cons] at hs
     omega
    have E0 : Below w1.heap.size w1 w1.drew := (Below.refl _ _).drew
    clear KS ihl ihr hl0 hr0 he0 hx0 hs
    go_wp2_with fail
    go_region_held3 (fun wx => wx.cell? ⟨w.heap.size, 0, none⟩ = some (.pointer p0) ∧ wx.cell? ⟨w.heap.size, 1, none⟩ = some (.func (.func 22) #[] #[]) ∧ wx.cell? ⟨w.heap.size + 1, 0, none⟩ = some x.vr ∧ wx.cell? ⟨w.heap.size + 1, 1, none⟩ = some (.int .i64 x.fam) ∧ wx.cell? ⟨w.heap.size + 1, 2, none⟩ = some x.vq ∧ wx.cell? ⟨w.heap.size + 1, 3, none⟩ = some (.int .i64 x.ts) ∧ wx.cell? ⟨w.heap.size + 1, 4, none⟩ = some (.int .i64 x.seq) ∧ wx.cell? ⟨w.heap.size + 1, 5, none⟩ = some (.int .i64 x.kind) ∧ wx.cell? ⟨w.heap.size + 1, 6, none⟩ = some x.vv ∧ wx.cell? ⟨b, 0, none⟩ = some e.vr ∧ wx.cell? ⟨b, 1, none⟩ = some (.int .i64 e.fam) ∧ wx.cell? ⟨b, 2, none⟩ = some e.vq ∧ wx.cell? ⟨b, 3, none⟩ = some (.int .i64 e.ts) ∧ wx.cell? ⟨b, 4, none⟩ = some (.int .i64 e.seq) ∧ wx.cell? ⟨b, 5, none⟩ = some (.int .i64 e.kind) ∧ wx.cell? ⟨b, 6, none⟩ = some e.vv ∧ wx.cell? ⟨b, 7, none⟩ = some (.pointer pl) ∧ wx.cell? ⟨b, 8, none⟩ = some (.pointer pr)) (first | exact KS1.out _ E0 | exact KS1.out _ E1 | exact KS1.out _ E2) (first | (go_at_call 56; refine Calls.mono (HH.out _ E0) ?_; rintro e5 w5 ⟨b5, rfl, t5, k5⟩; have E1 := E0.trans (k5.mono E0.size)) | (go_at_call 82; refine Calls.mono (HB.out _ _ E1 t5) ?_; rintro e6 w6 ⟨b6, rfl, t6, k6⟩; have E2 := E1.trans (k6.mono E1.size)))
    go_wp2
    go_ret
    unfold hangS
    rw [if_pos (by rw [← HCC.out]; exact h1)]
    exact ⟨b6, rfl, t6, A2.trans ((HD1.out.trans (E2.mono HD1.out.size)).mono A2.size)⟩
  ·have d1 : decide (cc < 0) = false := by simpa using h1
   ·
    have HB : Hid (∀ wx b1, Below w1.heap.size w1 wx → IsT G wx (some ⟨b1, 0, none⟩) (hangS x r) → Calls Tryz.prog 82 #[.pointer pl, .agg #[e.vr, .int .i64 e.fam, e.vq, .int .i64 e.ts, .int .i64 e.seq, .int .i64 e.kind, e.vv], .pointer (some ⟨b1, 0, none⟩)] wx fun z w' => ∃ b, z = .returned (.pointer (some ⟨b, 0, none⟩)) ∧ IsT G w' (some ⟨b, 0, none⟩) (balS l e (hangS x r)) ∧ Below wx.heap.size wx w') := fun wx b1 b t1 => by
     have bW := (Below.refl W.heap.size W).trans (HD1.out)
     refine balance_any (hl0.kept (KpG.of (bW.trans (b.mono bW.size)))) t1 (he0.kept (KpG.of (bW.trans (b.mono bW.size)))) ?_ (fun i hi => HG.out i (Nat.le_trans (Nat.le_trans (Nat.le_trans A2.size HD1.out.size) b.size) hi))
     have e1 := BT.ht_le (hangS x r)
     have e2 := BT.ht_le l
     have e3 := hangS_length x r
     simp only [BT.size, BT.ord, List.length_append, List.length_cons] at *
     omega
    have HH : Hid (∀ wx, Below w1.heap.size w1 wx → Calls Tryz.prog 56 #[.agg #[.pointer p0, .func (.func 22) #[] #[]], .pointer pr, .agg #[x.vr, .int .i64 x.fam, x.vq, .int .i64 x.ts, .int .i64 x.seq, .int .i64 x.kind, x.vv]] wx fun z w' => ∃ b, z = .returned (.pointer (some ⟨b, 0, none⟩)) ∧ IsT G w' (some ⟨b, 0, none⟩) (hangS x r) ∧ Below wx.heap.size wx w') := fun wx b => by
     have bW := (Below.refl W.heap.size W).trans (HD1.out)
     refine ihr wx pr (hr0.kept (KpG.of (bW.trans (b.mono bW.size)))) (hx0.kept (KpG.of (bW.trans (b.mono bW.size)))) ?_ (fun i hi => HG.out i (Nat.le_trans (Nat.le_trans (Nat.le_trans A2.size HD1.out.size) b.size) hi))
     simp only [BT.ord, List.length_append, List.length_cons] at hs
     omega
    have E0 : Below w1.heap.size w1 w1.drew := (Below.refl _ _).drew
    clear KS ihl ihr hl0 hr0 he0 hx0 hs
    go_wp2_with fail
    go_region_held3 (fun wx => wx.cell? ⟨w.heap.size, 0, none⟩ = some (.pointer p0) ∧ wx.cell? ⟨w.heap.size, 1, none⟩ = some (.func (.func 22) #[] #[]) ∧ wx.cell? ⟨w.heap.size + 1, 0, none⟩ = some x.vr ∧ wx.cell? ⟨w.heap.size + 1, 1, none⟩ = some (.int .i64 x.fam) ∧ wx.cell? ⟨w.heap.size + 1, 2, none⟩ = some x.vq ∧ wx.cell? ⟨w.heap.size + 1, 3, none⟩ = some (.int .i64 x.ts) ∧ wx.cell? ⟨w.heap.size + 1, 4, none⟩ = some (.int .i64 x.seq) ∧ wx.cell? ⟨w.heap.size + 1, 5, none⟩ = some (.int .i64 x.kind) ∧ wx.cell? ⟨w.heap.size + 1, 6, none⟩ = some x.vv ∧ wx.cell? ⟨b, 0, none⟩ = some e.vr ∧ wx.cell? ⟨b, 1, none⟩ = some (.int .i64 e.fam) ∧ wx.cell? ⟨b, 2, none⟩ = some e.vq ∧ wx.cell? ⟨b, 3, none⟩ = some (.int .i64 e.ts) ∧ wx.cell? ⟨b, 4, none⟩ = some (.int .i64 e.seq) ∧ wx.cell? ⟨b, 5, none⟩ = some (.int .i64 e.kind) ∧ wx.cell? ⟨b, 6, none⟩ = some e.vv ∧ wx.cell? ⟨b, 7, none⟩ = some (.pointer pl) ∧ wx.cell? ⟨b, 8, none⟩ = some (.pointer pr)) (first | exact KS1.out _ E0 | exact KS1.out _ E1 | exact KS1.out _ E2) (first | (go_at_call 56; refine Calls.mono (HH.out _ E0) ?_; rintro e5 w5 ⟨b5, rfl, t5, k5⟩; have E1 := E0.trans (k5.mono E0.size)) | (go_at_call 82; refine Calls.mono (HB.out _ _ E1 t5) ?_; rintro e6 w6 ⟨b6, rfl, t6, k6⟩; have E2 := E1.trans (k6.mono E1.size)))
    go_wp2
    go_ret
    unfold hangS
    rw [if_neg (by rw [← HCC.out]; omega)]
    exact ⟨b6, rfl, t6, A2.trans ((HD1.out.trans (E2.mono HD1.out.size)).mono A2.size)⟩
end Go.Proofs.YtpabbnddeklpdaaGreat

namespace Go.Proofs.YtpabbnddeklpdaaGreat
open Go.RowKit
set_option linter.unusedVariables false

theorem RdG.lt {G : Nat → Prop} {w : World} {v : Value} {bs : List Nat} (h : RdG G w v bs) : RdG (fun i => G i ∧ i < w.heap.size) w v bs := by
 refine ⟨h.1, fun b off m c e hm => ?_⟩
 obtain ⟨h8, cur, fr, h9⟩ := h.2 b off m c e hm
 exact ⟨⟨h8, (Array.getElem?_eq_some_iff.1 h9).1⟩, cur, fr, h9⟩
theorem EOk.lt {G : Nat → Prop} {w : World} {e : EntD} (h : EOk G w e) : EOk (fun i => G i ∧ i < w.heap.size) w e := ⟨h.1.lt, h.2.1.lt, h.2.2.lt⟩
theorem IsT.lt {G : Nat → Prop} {w : World} : ∀ {p : Option Addr} {T : BT}, IsT G w p T → IsT (fun i => G i ∧ i < w.heap.size) w p T
 | _, .leaf, h => h
 | _, .node _ _ _, ⟨b, pl, pr, hp, hb, hn, he, hl, hr⟩ => ⟨b, pl, pr, hp, ⟨hb, hn.lt⟩, hn, he.lt, hl.lt, hr.lt⟩
theorem KpG.setCell {G : Nat → Prop} {w w' : World} (h : KpG G w w') {g : Nat} (hg : ¬ G g) (i : Nat) (v : Value) : KpG G w (w'.setCell ⟨g, i, none⟩ v) :=
 ⟨by rw [World.size_setCell]; exact h.size, fun k hk hG => (Below.heap_setCell w' ⟨g, i, none⟩ v k (fun e => hg (by cases e; exact hG))).trans (h.block k hk hG)⟩
set_option maxRecDepth 100000 in
set_option maxHeartbeats 4000000 in
theorem with_any {G : Nat → Prop} {w : World} {p0 : Option Addr} {T : BT} {x : EntD} (hT : IsT G w p0 T) (hx : EOk G w x) (hs : T.ord.length < 274877906944) (hG : ∀ i, w.heap.size ≤ i → G i) :
  Calls Tryz.prog 39 #[ordV p0, .agg x.cells] w fun z w' => ∃ b, z = .returned (ordV (some ⟨b, 0, none⟩)) ∧ IsT G w' (some ⟨b, 0, none⟩) (hangS x T) ∧ Below w.heap.size w w' := by
 have A1 := (Below.refl w.heap.size w).alloc (Nat.le_refl _) (.cells #[.pointer p0, .func (.func 22) #[] #[]] 61)
 have A2 := A1.alloc A1.size (.cells x.cells 38)
 have bo := (OBox.new w p0).later ((Below.refl (w.alloc (.cells #[.pointer p0, .func (.func 22) #[] #[]] 61)).heap.size _).alloc (Nat.le_refl _) (.cells x.cells 38))
 have bx := EBox.new (w.alloc (.cells #[.pointer p0, .func (.func 22) #[] #[]] 61)) x
 rw [World.size_alloc] at bx
 obtain ⟨W, hW⟩ : ∃ W, W = (w.alloc (.cells #[.pointer p0, .func (.func 22) #[] #[]] 61)).alloc (.cells x.cells 38) := ⟨_, rfl⟩
 rw [← hW] at A2 bx bo
 have HW : Hid (W = _) := hW
 clear hW A1
 unfold EntD.cells at HW
 unfold ordV at *
 have A3 := A2.alloc A2.size (.cells #[.pointer none, .nilFunc] 61)
 obtain ⟨G', hG'⟩ : ∃ G' : Nat → Prop, G' = fun i => (G i ∧ i < w.heap.size) ∨ w.heap.size + 3 ≤ i := ⟨_, rfl⟩
 have hT' : IsT G' w p0 T := hT.lt.mono (fun i hi => by rw [hG']; exact .inl hi)
 have hx' : EOk G' w x := hx.lt.mono (fun i hi => by rw [hG']; exact .inl hi)
 have HGG : Hid (∀ i, G' i → G i) := fun i hi => by rw [hG'] at hi; rcases hi with hi | hi; exact hi.1; exact hG i (by omega)
 have hn : ∀ i, w.heap.size ≤ i → i ≤ w.heap.size + 2 → ¬ G' i := fun i h1 h2 h => by rw [hG'] at h; omega
 have HN : Hid (¬ G' w.heap.size ∧ ¬ G' (w.heap.size + 1 + 1)) := ⟨hn _ (by omega) (by omega), hn _ (by omega) (by omega)⟩
 have hsz : W.heap.size = w.heap.size + 2 := by rw [HW.out]; simp
 have HH : Hid (Calls Tryz.prog 56 #[.agg #[.pointer p0, .func (.func 22) #[] #[]], .pointer p0, .agg #[x.vr, .int .i64 x.fam, x.vq, .int .i64 x.ts, .int .i64 x.seq, .int .i64 x.kind, x.vv]] (W.alloc (.cells #[.pointer none, .nilFunc] 61)) _) := hang_any (G := G') T _ p0 (hT'.kept (KpG.of A3)) (hx'.kept (KpG.of A3)) hs (fun i hi => by rw [hG']; right; rw [World.size_alloc, hsz] at hi; omega)
 obtain ⟨c0, c1, c2, c3, c4, c5, c6⟩ := (⟨bx.vr, bx.fam, bx.vq, bx.ts, bx.seq, bx.kind, bx.vv⟩ : _ ∧ _ ∧ _ ∧ _ ∧ _ ∧ _ ∧ _)
 have o0 := bo.c0
 have o1 := bo.c1
 have rz : (W.alloc (.cells #[.pointer none, .nilFunc] 61)).heap[w.heap.size + 1 + 1]? = some (.cells #[.pointer none, .nilFunc] 61 (0, 0)) := by
  have e : w.heap.size + 1 + 1 = W.heap.size := by omega
  rw [e]
  show (W.heap.push _)[W.heap.size]? = some _
  simp
 have HB : Hid (OBox (W.alloc (.cells #[.pointer none, .nilFunc] 61)) w.heap.size p0 ∧ _) := ⟨bo.later ((Below.refl _ W).alloc (Nat.le_refl _) _), rz⟩
 have HA3 : Hid (Below w.heap.size w _) := A3
 clear hT hx hT' hx' hn hG hs rz A3 A2 bx bo hsz hG'
 unfold EntD.cells
 go_enter Tryz.func39, Tryz.ntmps39
 go_wp2_with fail
 rw [← HW.out]
 refine Calls.mono HH.out ?_
 rintro e1 w1 ⟨b, rfl, ht, hb⟩
 have ob1 := HB.out.1.later hb
 have rz1 := (hb.block _ (Array.getElem?_eq_some_iff.1 HB.out.2).1).trans HB.out.2
 have HT : Hid (IsT G' w1 (some ⟨b, 0, none⟩) (hangS x T)) := ht
 have HB1 : Hid (Below w.heap.size w w1) := HA3.out.trans (hb.mono HA3.out.size)
 have x0 := ob1.c0
 have x1 := ob1.c1
 have f0 := ob1.fz 0
 have y0 : w1.cell? ⟨w.heap.size + 1 + 1, 0, none⟩ = some (.pointer none) := by simp [World.cell?, rz1]
 have y1 : w1.cell? ⟨w.heap.size + 1 + 1, 1, none⟩ = some .nilFunc := by simp [World.cell?, rz1]
 have g0 : w1.frozen? ⟨w.heap.size + 1 + 1, 0, none⟩ = false := by simp [World.frozen?, rz1]
 have g1 : w1.frozen? ⟨w.heap.size + 1 + 1, 1, none⟩ = false := by simp [World.frozen?, rz1]
 clear ht hb ob1 rz1 HB HH
 go_wp2
 refine bodyPost_ret (v := .agg #[.pointer (some ⟨b, 0, none⟩), .func (.func 22) #[] #[]]) (by simp [results, Tryz.results39, go_sem, y0, y1]) rfl ?_
 refine ⟨b, rfl, ?_, ?_⟩
 ·refine (HT.out.kept (((KpG.refl G' w1).setCell HN.out.1 0 _).setCell HN.out.2 0 _ |>.setCell HN.out.2 1 _)).mono HGG.out
 ·exact ((HB1.out.setCell (p := ⟨w.heap.size, 0, none⟩) (Nat.le_refl _) _).setCell (p := ⟨w.heap.size + 1 + 1, 0, none⟩) (by show _ ≤ w.heap.size + 1 + 1; omega) _).setCell (p := ⟨w.heap.size + 1 + 1, 1, none⟩) (by show _ ≤ w.heap.size + 1 + 1; omega) _
end Go.Proofs.YtpabbnddeklpdaaGreat

namespace Go.Proofs.YtpabbnddeklpdaaGreat
open Go.RowKit
set_option linter.unusedVariables false

def tabC (p : Option Addr) (n k : Int) (f : Bool) : Array Value := #[.pointer p, .func (.func 22) #[] #[], .int .i64 n, .int .i64 k, .bool f]
def TBox (w : World) (t : Nat) (p : Option Addr) (n k : Int) (f : Bool) : Prop := w.heap[t]? = some (.cells (tabC p n k f) 63 (0, 0))
theorem TBox.cells {w : World} {t : Nat} {p : Option Addr} {n k : Int} {f : Bool} (h : TBox w t p n k f) :
  w.cell? ⟨t, 0, none⟩ = some (.pointer p) ∧ w.cell? ⟨t, 1, none⟩ = some (.func (.func 22) #[] #[]) ∧ w.cell? ⟨t, 2, none⟩ = some (.int .i64 n) ∧ w.cell? ⟨t, 3, none⟩ = some (.int .i64 k) ∧ w.cell? ⟨t, 4, none⟩ = some (.bool f) := by
 unfold TBox tabC at h
 refine ⟨?_, ?_, ?_, ?_, ?_⟩ <;> simp [World.cell?, h]
theorem TBox.fz {w : World} {t : Nat} {p : Option Addr} {n k : Int} {f : Bool} (h : TBox w t p n k f) (i : Nat) : w.frozen? ⟨t, i, none⟩ = false := by unfold TBox at h; simp [World.frozen?, h]
theorem TBox.lt {w : World} {t : Nat} {p : Option Addr} {n k : Int} {f : Bool} (h : TBox w t p n k f) : t < w.heap.size := (Array.getElem?_eq_some_iff.1 h).1
theorem TBox.later {w w' : World} {t : Nat} {p : Option Addr} {n k : Int} {f : Bool} (h : TBox w t p n k f) (hb : Below w.heap.size w w') : TBox w' t p n k f := by
 unfold TBox at *
 rw [hb.block t (Array.getElem?_eq_some_iff.1 h).1]; exact h
theorem TBox.set0 {w : World} {t : Nat} {p : Option Addr} {n k : Int} {f : Bool} (h : TBox w t p n k f) (q : Option Addr) : TBox (w.setCell ⟨t, 0, none⟩ (.pointer q)) t q n k f := by
 unfold TBox tabC at *
 simp [World.setCell, Array.getElem?_modify, h]
theorem TBox.set1 {w : World} {t : Nat} {p : Option Addr} {n k : Int} {f : Bool} (h : TBox w t p n k f) : TBox (w.setCell ⟨t, 1, none⟩ (.func (.func 22) #[] #[])) t p n k f := by
 unfold TBox tabC at *
 simp [World.setCell, Array.getElem?_modify, h]
theorem TBox.set2 {w : World} {t : Nat} {p : Option Addr} {n k : Int} {f : Bool} (h : TBox w t p n k f) (q : Int) : TBox (w.setCell ⟨t, 2, none⟩ (.int .i64 q)) t p q k f := by
 unfold TBox tabC at *
 simp [World.setCell, Array.getElem?_modify, h]
theorem TBox.set3 {w : World} {t : Nat} {p : Option Addr} {n k : Int} {f : Bool} (h : TBox w t p n k f) (q : Int) : TBox (w.setCell ⟨t, 3, none⟩ (.int .i64 q)) t p n q f := by
 unfold TBox tabC at *
 simp [World.setCell, Array.getElem?_modify, h]

structure Tab (G : Nat → Prop) (w : World) (t : Nat) (L : List EntD) (n k : Int) (f : Bool) : Prop where
 not : ¬ G t
 srt : Srt L
 tree : ∃ p T, TBox w t p n k f ∧ IsT G w p T ∧ T.ord = L

set_option maxRecDepth 100000 in
theorem new_any (w : World) : Calls Tryz.prog 5 #[] w fun e w' => e = .returned (.pointer (some ⟨w.heap.size, 0, none⟩)) ∧ TBox w' w.heap.size none 0 0 false ∧ w'.heap.size = w.heap.size + 1 ∧ Below w.heap.size w w' := by
 go_enter Tryz.func5, Tryz.ntmps5
 go_wp2
 go_ret
 refine ⟨rfl, ?_, by simp, (Below.refl _ w).alloc (Nat.le_refl _) _⟩
 show (w.heap.push _)[w.heap.size]? = some _
 simp [tabC]

set_option maxRecDepth 100000 in
theorem len_any {w : World} {t : Nat} {p : Option Addr} {n k : Int} {f : Bool} (h : TBox w t p n k f) : Calls Tryz.prog 12 #[.pointer (some ⟨t, 0, none⟩)] w fun e w' => e = .returned (.int .i64 n) ∧ w' = w := by
 have c := h.cells.2.2.1
 go_enter Tryz.func12, Tryz.ntmps12
 go_wp2
 go_ret
 exact ⟨rfl, rfl⟩

set_option maxRecDepth 100000 in
theorem all_any (w : World) (v : Option Addr) : Calls Tryz.prog 21 #[.pointer v] w fun e w' => e = .returned (.func (.func 40) #[] #[.pointer (some ⟨w.heap.size, 0, none⟩)]) ∧ w' = w.alloc (.cells #[.pointer v] 25) := by
 go_enter Tryz.func21, Tryz.ntmps21
 go_wp2
 go_ret
 exact ⟨rfl, rfl⟩

set_option maxRecDepth 100000 in
theorem oall_any (w : World) (p : Option Addr) : Calls Tryz.prog 41 #[ordV p] w fun e w' => e = .returned (.func (.func 57) #[] #[.pointer (some ⟨w.heap.size, 0, none⟩)]) ∧ w' = w.alloc (.cells #[.pointer p, .func (.func 22) #[] #[]] 61) := by
 unfold ordV
 go_enter Tryz.func41, Tryz.ntmps41
 go_wp2
 go_ret
 exact ⟨rfl, rfl⟩
end Go.Proofs.YtpabbnddeklpdaaGreat

namespace Go.Proofs.YtpabbnddeklpdaaGreat
open Go.RowKit
set_option linter.unusedVariables false

theorem EBox.fzA {w : World} {g : Nat} {e : EntD} (h : EBox w g e) (i : Nat) : w.frozen? ⟨g, i, none⟩ = false := by unfold EBox at h; simp [World.frozen?, h]

theorem EBox.put0 {w : World} {g : Nat} {e : EntD} (h : EBox w g e) (v : Value) : EBox (w.setCell ⟨g, 0, none⟩ v) g { e with vr := v } := by unfold EBox EntD.cells at *; simp [World.setCell, Array.getElem?_modify, h]
theorem EBox.put2 {w : World} {g : Nat} {e : EntD} (h : EBox w g e) (v : Value) : EBox (w.setCell ⟨g, 2, none⟩ v) g { e with vq := v } := by unfold EBox EntD.cells at *; simp [World.setCell, Array.getElem?_modify, h]
theorem EBox.put6 {w : World} {g : Nat} {e : EntD} (h : EBox w g e) (v : Value) : EBox (w.setCell ⟨g, 6, none⟩ v) g { e with vv := v } := by unfold EBox EntD.cells at *; simp [World.setCell, Array.getElem?_modify, h]

set_option maxRecDepth 100000 in
set_option maxHeartbeats 8000000 in
theorem copyOf_any {w : World} {e : EntD} (hx : EntD.Ok w e) (hl : e.row.length ≤ 140737488355328 ∧ e.qual.length ≤ 140737488355328 ∧ e.val.length ≤ 140737488355328) :
  Calls Tryz.prog 24 #[.agg e.cells] w fun z w' => ∃ x : EntD, z = .returned (.agg x.cells) ∧ EntD.Same x e ∧ EOk (fun i => w.heap.size ≤ i) w' x ∧ Below w.heap.size w w' := by
 have A1 := (Below.refl w.heap.size w).alloc (Nat.le_refl _) (.cells e.cells 38)
 have bx0 := EBox.new w e
 obtain ⟨zc, hz⟩ : ∃ zc : Array Value, zc = #[.slice none 0 0, .int .i64 0, .slice none 0 0, .int .i64 0, .int .i64 0, .int .i64 0, .slice none 0 0] := ⟨_, rfl⟩
 have A2 := A1.alloc A1.size (.cells zc 38)
 have bx := bx0.later ((Below.refl (w.alloc (.cells e.cells 38)).heap.size _).alloc (Nat.le_refl _) (.cells zc 38))
 have rz : ((w.alloc (.cells e.cells 38)).alloc (.cells zc 38)).heap[w.heap.size + 1]? = some (.cells zc 38 (0, 0)) := by
  show ((w.alloc (.cells e.cells 38)).heap.push _)[w.heap.size + 1]? = _
  have e1 : w.heap.size + 1 = (w.alloc (.cells e.cells 38)).heap.size := (World.size_alloc w _).symm
  rw [e1]
  exact Array.getElem?_push_size
 obtain ⟨W, hW⟩ : ∃ W, W = (w.alloc (.cells e.cells 38)).alloc (.cells zc 38) := ⟨_, rfl⟩
 rw [← hW] at A2 bx rz
 have HW : Hid (W = _) := hW
 have hwl : w.heap.size + 1 < W.heap.size := by rw [hW]; simp
 clear hW A1 bx0
 have HX : Hid (∀ wx, Below W.heap.size W wx → EBox wx w.heap.size e ∧ EntD.Ok wx e) := fun wx b => ⟨bx.later b, (hx.later A2).later b⟩
 have HR : Hid (∀ wx, Below W.heap.size W wx → wx.heap[w.heap.size + 1]? = some (.cells zc 38 (0, 0))) := fun wx b => (b.block _ hwl).trans rz
 have HA : Hid (Below w.heap.size w W) := A2
 have HY : Hid (Bys e.row ∧ Bys e.qual ∧ Bys e.val) := ⟨hx.1.1, hx.2.1.1, hx.2.2.1⟩
 have HL : Hid (e.row.length ≤ 140737488355328 ∧ e.qual.length ≤ 140737488355328 ∧ e.val.length ≤ 140737488355328) := hl
 obtain ⟨vr, fam, vq, ts, seq, kind, vv, row, qual, val⟩ := e
 subst hz
 simp only [EntD.cells] at *
 have D0 : Below W.heap.size W W.drew := (Below.refl _ _).drew
 have C1 : Hid (∀ wx, Below W.heap.size W wx → Calls Tryz.prog 43 #[vr] wx _) := fun wx b => handed (clone_any (HX.out _ b).2.1 HL.out.1)
 have C2 : Hid (∀ wx, Below W.heap.size W wx → Calls Tryz.prog 43 #[vq] wx _) := fun wx b => handed (clone_any (HX.out _ b).2.2.1 HL.out.2.1)
 have C3 : Hid (∀ wx, Below W.heap.size W wx → Calls Tryz.prog 43 #[vv] wx _) := fun wx b => handed (clone_any (HX.out _ b).2.2.2 HL.out.2.2)
 have y0 : W.drew.cell? ⟨w.heap.size, 0, none⟩ = some vr := (HX.out _ D0).1.vr
 have y2 : W.drew.cell? ⟨w.heap.size, 2, none⟩ = some vq := (HX.out _ D0).1.vq
 have y6 : W.drew.cell? ⟨w.heap.size, 6, none⟩ = some vv := (HX.out _ D0).1.vv
 clear A2 bx rz hl hx
 go_enter Tryz.func24, Tryz.ntmps24
 go_wp2_with fail
 rw [← HW.out]
 refine wp_region_noPanic ?_
 refine wp_region_anyE (S := fun wx => wx.cell? ⟨w.heap.size, 0, none⟩ = some vr ∧ wx.cell? ⟨w.heap.size, 2, none⟩ = some vq ∧ wx.cell? ⟨w.heap.size, 6, none⟩ = some vv) (E := fun j => decide (j < 9)) (by kernel_rfl) ?_
 have hS : W.drew.cell? ⟨w.heap.size, 0, none⟩ = some vr ∧ W.drew.cell? ⟨w.heap.size, 2, none⟩ = some vq ∧ W.drew.cell? ⟨w.heap.size, 6, none⟩ = some vv := ⟨y0, y2, y6⟩
 refine AnyE.take (i := 0) (.pointer (some ⟨w.heap.size, 0, none⟩)) rfl (by kernel_rfl) (by kernel_rfl) (by kernel_rfl) (by kernel_rfl) (fun _ _ _ h => h) (.inl ⟨by rfl, fun wq hq => by go_simp⟩) hS ?_
 show AnyE _ _ _ _ _ _ 14 #[true, false, false, false, false, false, false, false, false, false, false, false, false, false, false] ⟨#[.agg #[vr, .int .i64 fam, vq, .int .i64 ts, .int .i64 seq, .int .i64 kind, vv], .pointer (some ⟨w.heap.size, 0, none⟩), .pointer (some ⟨w.heap.size + 1, 0, none⟩), .pointer (some ⟨w.heap.size, 0, none⟩), undef, undef, undef, undef, undef, undef, undef, undef, undef, undef, undef, undef], []⟩ _
 refine AnyE.take (i := 1) (vr) rfl (by kernel_rfl) (by kernel_rfl) (by kernel_rfl) (by kernel_rfl) (fun _ _ _ h => h) (.inl ⟨by rfl, fun wq hq => by obtain ⟨q0, q2, q6⟩ := hq; go_simp⟩) hS ?_
 show AnyE _ _ _ _ _ _ 13 #[true, true, false, false, false, false, false, false, false, false, false, false, false, false, false] ⟨#[.agg #[vr, .int .i64 fam, vq, .int .i64 ts, .int .i64 seq, .int .i64 kind, vv], .pointer (some ⟨w.heap.size, 0, none⟩), .pointer (some ⟨w.heap.size + 1, 0, none⟩), .pointer (some ⟨w.heap.size, 0, none⟩), vr, undef, undef, undef, undef, undef, undef, undef, undef, undef, undef, undef], []⟩ _
 refine AnyE.take (i := 3) (.pointer (some ⟨w.heap.size, 2, none⟩)) rfl (by kernel_rfl) (by kernel_rfl) (by kernel_rfl) (by kernel_rfl) (fun _ _ _ h => h) (.inl ⟨by rfl, fun wq hq => by go_simp⟩) hS ?_
 show AnyE _ _ _ _ _ _ 12 #[true, true, false, true, false, false, false, false, false, false, false, false, false, false, false] ⟨#[.agg #[vr, .int .i64 fam, vq, .int .i64 ts, .int .i64 seq, .int .i64 kind, vv], .pointer (some ⟨w.heap.size, 0, none⟩), .pointer (some ⟨w.heap.size + 1, 0, none⟩), .pointer (some ⟨w.heap.size, 0, none⟩), vr, undef, .pointer (some ⟨w.heap.size, 2, none⟩), undef, undef, undef, undef, undef, undef, undef, undef, undef], []⟩ _
 refine AnyE.take (i := 4) (vq) rfl (by kernel_rfl) (by kernel_rfl) (by kernel_rfl) (by kernel_rfl) (fun _ _ _ h => h) (.inl ⟨by rfl, fun wq hq => by obtain ⟨q0, q2, q6⟩ := hq; go_simp⟩) hS ?_
 show AnyE _ _ _ _ _ _ 11 #[true, true, false, true, true, false, false, false, false, false, false, false, false, false, false] ⟨#[.agg #[vr, .int .i64 fam, vq, .int .i64 ts, .int .i64 seq, .int .i64 kind, vv], .pointer (some ⟨w.heap.size, 0, none⟩), .pointer (some ⟨w.heap.size + 1, 0, none⟩), .pointer (some ⟨w.heap.size, 0, none⟩), vr, undef, .pointer (some ⟨w.heap.size, 2, none⟩), vq, undef, undef, undef, undef, undef, undef, undef, undef], []⟩ _
 refine AnyE.take (i := 6) (.pointer (some ⟨w.heap.size, 6, none⟩)) rfl (by kernel_rfl) (by kernel_rfl) (by kernel_rfl) (by kernel_rfl) (fun _ _ _ h => h) (.inl ⟨by rfl, fun wq hq => by go_simp⟩) hS ?_
 show AnyE _ _ _ _ _ _ 10 #[true, true, false, true, true, false, true, false, false, false, false, false, false, false, false] ⟨#[.agg #[vr, .int .i64 fam, vq, .int .i64 ts, .int .i64 seq, .int .i64 kind, vv], .pointer (some ⟨w.heap.size, 0, none⟩), .pointer (some ⟨w.heap.size + 1, 0, none⟩), .pointer (some ⟨w.heap.size, 0, none⟩), vr, undef, .pointer (some ⟨w.heap.size, 2, none⟩), vq, undef, .pointer (some ⟨w.heap.size, 6, none⟩), undef, undef, undef, undef, undef, undef], []⟩ _
 refine AnyE.take (i := 7) (vv) rfl (by kernel_rfl) (by kernel_rfl) (by kernel_rfl) (by kernel_rfl) (fun _ _ _ h => h) (.inl ⟨by rfl, fun wq hq => by obtain ⟨q0, q2, q6⟩ := hq; go_simp⟩) hS ?_
 show AnyE _ _ _ _ _ _ 9 #[true, true, false, true, true, false, true, true, false, false, false, false, false, false, false] ⟨#[.agg #[vr, .int .i64 fam, vq, .int .i64 ts, .int .i64 seq, .int .i64 kind, vv], .pointer (some ⟨w.heap.size, 0, none⟩), .pointer (some ⟨w.heap.size + 1, 0, none⟩), .pointer (some ⟨w.heap.size, 0, none⟩), vr, undef, .pointer (some ⟨w.heap.size, 2, none⟩), vq, undef, .pointer (some ⟨w.heap.size, 6, none⟩), vv, undef, undef, undef, undef, undef], []⟩ _
 refine AnyE.one (i := 2) rfl (by kernel_rfl) (by rfl) (fun K1 hK1 => ?_)
 go_simp
 refine Calls.mono (C1.out _ D0) ?_
 rintro e1 w1 ⟨a1, m1, c1, rfl, o1, b1⟩
 have D1 := D0.trans (b1.mono D0.size)
 have hS1 : w1.cell? ⟨w.heap.size, 0, none⟩ = some vr ∧ w1.cell? ⟨w.heap.size, 2, none⟩ = some vq ∧ w1.cell? ⟨w.heap.size, 6, none⟩ = some vv := ⟨(HX.out _ D1).1.vr, (HX.out _ D1).1.vq, (HX.out _ D1).1.vv⟩
 refine hK1.out _ _ ⟨fun _ => hS1, ?_⟩
 clear hK1
 show AnyE _ _ _ _ _ _ 8 #[true, true, true, true, true, false, true, true, false, false, false, false, false, false, false] ⟨#[.agg #[vr, .int .i64 fam, vq, .int .i64 ts, .int .i64 seq, .int .i64 kind, vv], .pointer (some ⟨w.heap.size, 0, none⟩), .pointer (some ⟨w.heap.size + 1, 0, none⟩), .pointer (some ⟨w.heap.size, 0, none⟩), vr, (.slice a1 m1 c1), .pointer (some ⟨w.heap.size, 2, none⟩), vq, undef, .pointer (some ⟨w.heap.size, 6, none⟩), vv, undef, undef, undef, undef, undef], []⟩ _
 refine AnyE.take (i := 9) (.pointer (some ⟨w.heap.size, 0, none⟩)) rfl (by kernel_rfl) (by kernel_rfl) (by kernel_rfl) (by kernel_rfl) (fun _ _ _ h => h) (.inl ⟨by rfl, fun wq hq => by go_simp⟩) hS1 ?_
 show AnyE _ _ _ _ _ _ 7 #[true, true, true, true, true, false, true, true, false, true, false, false, false, false, false] ⟨#[.agg #[vr, .int .i64 fam, vq, .int .i64 ts, .int .i64 seq, .int .i64 kind, vv], .pointer (some ⟨w.heap.size, 0, none⟩), .pointer (some ⟨w.heap.size + 1, 0, none⟩), .pointer (some ⟨w.heap.size, 0, none⟩), vr, (.slice a1 m1 c1), .pointer (some ⟨w.heap.size, 2, none⟩), vq, undef, .pointer (some ⟨w.heap.size, 6, none⟩), vv, undef, .pointer (some ⟨w.heap.size, 0, none⟩), undef, undef, undef], []⟩ _
 refine AnyE.one (i := 5) rfl (by kernel_rfl) (by rfl) (fun K2 hK2 => ?_)
 go_simp
 refine Calls.mono (C2.out _ D1) ?_
 rintro e2 w2 ⟨a2, m2, c2, rfl, o2, b2⟩
 have D2 := D1.trans (b2.mono D1.size)
 have hS2 : w2.cell? ⟨w.heap.size, 0, none⟩ = some vr ∧ w2.cell? ⟨w.heap.size, 2, none⟩ = some vq ∧ w2.cell? ⟨w.heap.size, 6, none⟩ = some vv := ⟨(HX.out _ D2).1.vr, (HX.out _ D2).1.vq, (HX.out _ D2).1.vv⟩
 refine hK2.out _ _ ⟨fun _ => hS2, ?_⟩
 clear hK2
 show AnyE _ _ _ _ _ _ 6 #[true, true, true, true, true, true, true, true, false, true, false, false, false, false, false] ⟨#[.agg #[vr, .int .i64 fam, vq, .int .i64 ts, .int .i64 seq, .int .i64 kind, vv], .pointer (some ⟨w.heap.size, 0, none⟩), .pointer (some ⟨w.heap.size + 1, 0, none⟩), .pointer (some ⟨w.heap.size, 0, none⟩), vr, (.slice a1 m1 c1), .pointer (some ⟨w.heap.size, 2, none⟩), vq, (.slice a2 m2 c2), .pointer (some ⟨w.heap.size, 6, none⟩), vv, undef, .pointer (some ⟨w.heap.size, 0, none⟩), undef, undef, undef], []⟩ _
 refine AnyE.one (i := 8) rfl (by kernel_rfl) (by rfl) (fun K3 hK3 => ?_)
 go_simp
 refine Calls.mono (C3.out _ D2) ?_
 rintro e3 w3 ⟨a3, m3, c3, rfl, o3, b3⟩
 have D3 := D2.trans (b3.mono D2.size)
 have hS3 : w3.cell? ⟨w.heap.size, 0, none⟩ = some vr ∧ w3.cell? ⟨w.heap.size, 2, none⟩ = some vq ∧ w3.cell? ⟨w.heap.size, 6, none⟩ = some vv := ⟨(HX.out _ D3).1.vr, (HX.out _ D3).1.vq, (HX.out _ D3).1.vv⟩
 refine hK3.out _ _ ⟨fun _ => hS3, ?_⟩
 clear hK3
 show AnyE _ _ _ _ _ _ 5 #[true, true, true, true, true, true, true, true, true, true, false, false, false, false, false] ⟨#[.agg #[vr, .int .i64 fam, vq, .int .i64 ts, .int .i64 seq, .int .i64 kind, vv], .pointer (some ⟨w.heap.size, 0, none⟩), .pointer (some ⟨w.heap.size + 1, 0, none⟩), .pointer (some ⟨w.heap.size, 0, none⟩), vr, (.slice a1 m1 c1), .pointer (some ⟨w.heap.size, 2, none⟩), vq, (.slice a2 m2 c2), .pointer (some ⟨w.heap.size, 6, none⟩), vv, (.slice a3 m3 c3), .pointer (some ⟨w.heap.size, 0, none⟩), undef, undef, undef], []⟩ _
 obtain ⟨v0, v2, v6⟩ := hS3
 have g0 := (HX.out _ D3).1.fzA 0
 have g2 := (HX.out _ D3).1.fzA 2
 have g6 := (HX.out _ D3).1.fzA 6
 refine AnyE.one (i := 10) rfl (by kernel_rfl) (by rfl) (fun K hK => ?_)
 go_simp
 refine hK.out _ _ ⟨fun h => (by cases h), ?_⟩
 clear hK
 show AnyE _ _ _ _ _ _ 4 #[true, true, true, true, true, true, true, true, true, true, true, false, false, false, false] ⟨#[.agg #[vr, .int .i64 fam, vq, .int .i64 ts, .int .i64 seq, .int .i64 kind, vv], .pointer (some ⟨w.heap.size, 0, none⟩), .pointer (some ⟨w.heap.size + 1, 0, none⟩), .pointer (some ⟨w.heap.size, 0, none⟩), vr, (.slice a1 m1 c1), .pointer (some ⟨w.heap.size, 2, none⟩), vq, (.slice a2 m2 c2), .pointer (some ⟨w.heap.size, 6, none⟩), vv, (.slice a3 m3 c3), .pointer (some ⟨w.heap.size, 0, none⟩), undef, undef, undef], []⟩ (w3.setCell ⟨w.heap.size, 0, none⟩ (.slice a1 m1 c1))
 refine AnyE.one (i := 11) rfl (by kernel_rfl) (by rfl) (fun K hK => ?_)
 go_simp
 refine hK.out _ _ ⟨fun h => (by cases h), ?_⟩
 clear hK
 show AnyE _ _ _ _ _ _ 3 #[true, true, true, true, true, true, true, true, true, true, true, true, false, false, false] ⟨#[.agg #[vr, .int .i64 fam, vq, .int .i64 ts, .int .i64 seq, .int .i64 kind, vv], .pointer (some ⟨w.heap.size, 0, none⟩), .pointer (some ⟨w.heap.size + 1, 0, none⟩), .pointer (some ⟨w.heap.size, 0, none⟩), vr, (.slice a1 m1 c1), .pointer (some ⟨w.heap.size, 2, none⟩), vq, (.slice a2 m2 c2), .pointer (some ⟨w.heap.size, 6, none⟩), vv, (.slice a3 m3 c3), .pointer (some ⟨w.heap.size, 0, none⟩), .pointer (some ⟨w.heap.size, 2, none⟩), undef, undef], []⟩ (w3.setCell ⟨w.heap.size, 0, none⟩ (.slice a1 m1 c1))
 refine AnyE.one (i := 12) rfl (by kernel_rfl) (by rfl) (fun K hK => ?_)
 go_simp
 refine hK.out _ _ ⟨fun h => (by cases h), ?_⟩
 clear hK
 show AnyE _ _ _ _ _ _ 2 #[true, true, true, true, true, true, true, true, true, true, true, true, true, false, false] ⟨#[.agg #[vr, .int .i64 fam, vq, .int .i64 ts, .int .i64 seq, .int .i64 kind, vv], .pointer (some ⟨w.heap.size, 0, none⟩), .pointer (some ⟨w.heap.size + 1, 0, none⟩), .pointer (some ⟨w.heap.size, 0, none⟩), vr, (.slice a1 m1 c1), .pointer (some ⟨w.heap.size, 2, none⟩), vq, (.slice a2 m2 c2), .pointer (some ⟨w.heap.size, 6, none⟩), vv, (.slice a3 m3 c3), .pointer (some ⟨w.heap.size, 0, none⟩), .pointer (some ⟨w.heap.size, 2, none⟩), undef, undef], []⟩ ((w3.setCell ⟨w.heap.size, 0, none⟩ (.slice a1 m1 c1)).setCell ⟨w.heap.size, 2, none⟩ (.slice a2 m2 c2))
 refine AnyE.one (i := 13) rfl (by kernel_rfl) (by rfl) (fun K hK => ?_)
 go_simp
 refine hK.out _ _ ⟨fun h => (by cases h), ?_⟩
 clear hK
 show AnyE _ _ _ _ _ _ 1 #[true, true, true, true, true, true, true, true, true, true, true, true, true, true, false] ⟨#[.agg #[vr, .int .i64 fam, vq, .int .i64 ts, .int .i64 seq, .int .i64 kind, vv], .pointer (some ⟨w.heap.size, 0, none⟩), .pointer (some ⟨w.heap.size + 1, 0, none⟩), .pointer (some ⟨w.heap.size, 0, none⟩), vr, (.slice a1 m1 c1), .pointer (some ⟨w.heap.size, 2, none⟩), vq, (.slice a2 m2 c2), .pointer (some ⟨w.heap.size, 6, none⟩), vv, (.slice a3 m3 c3), .pointer (some ⟨w.heap.size, 0, none⟩), .pointer (some ⟨w.heap.size, 2, none⟩), .pointer (some ⟨w.heap.size, 6, none⟩), undef], []⟩ ((w3.setCell ⟨w.heap.size, 0, none⟩ (.slice a1 m1 c1)).setCell ⟨w.heap.size, 2, none⟩ (.slice a2 m2 c2))
 refine AnyE.one (i := 14) rfl (by kernel_rfl) (by rfl) (fun K hK => ?_)
 go_simp
 refine hK.out _ _ ⟨fun h => (by cases h), ?_⟩
 clear hK
 show AnyE _ _ _ _ _ _ 0 #[true, true, true, true, true, true, true, true, true, true, true, true, true, true, true] ⟨#[.agg #[vr, .int .i64 fam, vq, .int .i64 ts, .int .i64 seq, .int .i64 kind, vv], .pointer (some ⟨w.heap.size, 0, none⟩), .pointer (some ⟨w.heap.size + 1, 0, none⟩), .pointer (some ⟨w.heap.size, 0, none⟩), vr, (.slice a1 m1 c1), .pointer (some ⟨w.heap.size, 2, none⟩), vq, (.slice a2 m2 c2), .pointer (some ⟨w.heap.size, 6, none⟩), vv, (.slice a3 m3 c3), .pointer (some ⟨w.heap.size, 0, none⟩), .pointer (some ⟨w.heap.size, 2, none⟩), .pointer (some ⟨w.heap.size, 6, none⟩), undef], []⟩ (((w3.setCell ⟨w.heap.size, 0, none⟩ (.slice a1 m1 c1)).setCell ⟨w.heap.size, 2, none⟩ (.slice a2 m2 c2)).setCell ⟨w.heap.size, 6, none⟩ (.slice a3 m3 c3))
 refine AnyE.done (by kernel_rfl) (NoPanic.normal ?_) _
 have BF := ((((HX.out _ D3).1.put0 (.slice a1 m1 c1)).put2 (.slice a2 m2 c2)).put6 (.slice a3 m3 c3))
 have hne : w.heap.size + 1 ≠ w.heap.size := by omega
 have RZ := (Below.heap_setCell _ ⟨w.heap.size, 6, none⟩ (.slice a3 m3 c3) (w.heap.size + 1) hne).trans ((Below.heap_setCell _ ⟨w.heap.size, 2, none⟩ (.slice a2 m2 c2) (w.heap.size + 1) hne).trans ((Below.heap_setCell w3 ⟨w.heap.size, 0, none⟩ (.slice a1 m1 c1) (w.heap.size + 1) hne).trans (HR.out _ D3)))
 have KF : KpG (fun i => W.heap.size ≤ i) w3 (((w3.setCell ⟨w.heap.size, 0, none⟩ (.slice a1 m1 c1)).setCell ⟨w.heap.size, 2, none⟩ (.slice a2 m2 c2)).setCell ⟨w.heap.size, 6, none⟩ (.slice a3 m3 c3)) := (((KpG.refl _ w3).setCell (by omega) _ _).setCell (by omega) _ _).setCell (by omega) _ _
 have BW := (((HA.out.trans (D3.mono HA.out.size)).setCell (p := ⟨w.heap.size, 0, none⟩) (Nat.le_refl _) (.slice a1 m1 c1)).setCell (p := ⟨w.heap.size, 2, none⟩) (Nat.le_refl _) (.slice a2 m2 c2)).setCell (p := ⟨w.heap.size, 6, none⟩) (Nat.le_refl _) (.slice a3 m3 c3)
 generalize (((w3.setCell ⟨w.heap.size, 0, none⟩ (.slice a1 m1 c1)).setCell ⟨w.heap.size, 2, none⟩ (.slice a2 m2 c2)).setCell ⟨w.heap.size, 6, none⟩ (.slice a3 m3 c3)) = WF at *
 have E3 : EOk (fun i => W.heap.size ≤ i) w3 ⟨.slice a1 m1 c1, fam, .slice a2 m2 c2, ts, seq, kind, .slice a3 m3 c3, row, qual, val⟩ := by
  have s1 : W.heap.size ≤ w1.heap.size := D1.size
  have s2 : W.heap.size ≤ w2.heap.size := D2.size
  refine ⟨RdG.of_own ((o1.later b2).later b3) HY.out.1 (by have := HL.out.1; rw [o1.len]; omega) (fun i hi => Nat.le_trans D0.size hi), RdG.of_own (o2.later b3) HY.out.2.1 (by have := HL.out.2.1; rw [o2.len]; omega) (fun i hi => by omega), RdG.of_own o3 HY.out.2.2 (by have := HL.out.2.2; rw [o3.len]; omega) (fun i hi => by omega)⟩
 have HE : Hid (EOk (fun i => W.heap.size ≤ i) WF _) := E3.kept KF
 have HBW : Hid (Below w.heap.size w WF) := BW
 obtain ⟨y0', y1', y2', y3', y4', y5', y6'⟩ := (⟨BF.vr, BF.fam, BF.vq, BF.ts, BF.seq, BF.kind, BF.vv⟩ : _ ∧ _ ∧ _ ∧ _ ∧ _ ∧ _ ∧ _)
 simp only at y0' y1' y2' y3' y4' y5' y6'
 have z0 : WF.cell? ⟨w.heap.size + 1, 0, none⟩ = some (.slice none 0 0) := by simp [World.cell?, RZ]
 have f0 : WF.frozen? ⟨w.heap.size + 1, 0, none⟩ = false := by simp [World.frozen?, RZ]
 have z1 : WF.cell? ⟨w.heap.size + 1, 1, none⟩ = some (.int .i64 0) := by simp [World.cell?, RZ]
 have f1 : WF.frozen? ⟨w.heap.size + 1, 1, none⟩ = false := by simp [World.frozen?, RZ]
 have z2 : WF.cell? ⟨w.heap.size + 1, 2, none⟩ = some (.slice none 0 0) := by simp [World.cell?, RZ]
 have f2 : WF.frozen? ⟨w.heap.size + 1, 2, none⟩ = false := by simp [World.frozen?, RZ]
 have z3 : WF.cell? ⟨w.heap.size + 1, 3, none⟩ = some (.int .i64 0) := by simp [World.cell?, RZ]
 have f3 : WF.frozen? ⟨w.heap.size + 1, 3, none⟩ = false := by simp [World.frozen?, RZ]
 have z4 : WF.cell? ⟨w.heap.size + 1, 4, none⟩ = some (.int .i64 0) := by simp [World.cell?, RZ]
 have f4 : WF.frozen? ⟨w.heap.size + 1, 4, none⟩ = false := by simp [World.frozen?, RZ]
 have z5 : WF.cell? ⟨w.heap.size + 1, 5, none⟩ = some (.int .i64 0) := by simp [World.cell?, RZ]
 have f5 : WF.frozen? ⟨w.heap.size + 1, 5, none⟩ = false := by simp [World.frozen?, RZ]
 have z6 : WF.cell? ⟨w.heap.size + 1, 6, none⟩ = some (.slice none 0 0) := by simp [World.cell?, RZ]
 have f6 : WF.frozen? ⟨w.heap.size + 1, 6, none⟩ = false := by simp [World.frozen?, RZ]
 clear RZ BF KF BW E3 o1 o2 o3 b1 b2 b3 D1 D2 D3 v0 v2 v6 g0 g2 g6 hS hS1 hS2 y0 y2 y6 D0 HR HX C1 C2 C3
 go_wp2
 refine bodyPost_ret (v := .agg #[.slice a1 m1 c1, .int .i64 fam, .slice a2 m2 c2, .int .i64 ts, .int .i64 seq, .int .i64 kind, .slice a3 m3 c3]) (by simp [results, Tryz.results24, go_sem, z0, z1, z2, z3, z4, z5, z6]) rfl ?_
 refine ⟨⟨.slice a1 m1 c1, fam, .slice a2 m2 c2, ts, seq, kind, .slice a3 m3 c3, row, qual, val⟩, rfl, ⟨rfl, rfl, rfl, rfl, rfl, rfl, rfl⟩, ?_, ?_⟩
 ·refine (HE.out.kept ?_).mono (fun i hi => Nat.le_trans HA.out.size hi)
  exact (((((((KpG.refl _ WF).setCell (by omega) _ _).setCell (by omega) _ _).setCell (by omega) _ _).setCell (by omega) _ _).setCell (by omega) _ _).setCell (by omega) _ _).setCell (by omega) _ _
 ·exact ((((((HBW.out.setCell (Nat.le_succ _) _).setCell (Nat.le_succ _) _).setCell (Nat.le_succ _) _).setCell (Nat.le_succ _) _).setCell (Nat.le_succ _) _).setCell (Nat.le_succ _) _).setCell (Nat.le_succ _) _
end Go.Proofs.YtpabbnddeklpdaaGreat
