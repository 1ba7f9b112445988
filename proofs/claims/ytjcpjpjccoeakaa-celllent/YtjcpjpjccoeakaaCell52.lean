import Derived.Test.YtjcpjpjccoeakaaJ18
namespace Go.Proofs.Ytjcpjpjccoeakaa
open Go.RowKit
set_option linter.unusedVariables false

def order3Ops : Array Oper := #[{ dst := some 15, op := Op.load 35 (Operand.tmp 3), type := 35, pos := "law.go:177", after := #[], guard := none }, { dst := some 16, op := Op.call { callee := Callee.value (Operand.func 19), args := #[Operand.tmp 15], argTypes := #[35] }, type := 35, pos := "law.go:177", after := #[{ on := 0, ground := Ground.data }], guard := none }, { dst := some 17, op := Op.load 35 (Operand.tmp 4), type := 35, pos := "law.go:177", after := #[], guard := none }, { dst := some 18, op := Op.call { callee := Callee.value (Operand.func 19), args := #[Operand.tmp 17], argTypes := #[35] }, type := 35, pos := "law.go:177", after := #[{ on := 2, ground := Ground.data }, { on := 1, ground := Ground.chain }], guard := none }, { dst := some 19, op := Op.load 35 (Operand.tmp 5), type := 35, pos := "law.go:177", after := #[], guard := none }, { dst := some 20, op := Op.call { callee := Callee.value (Operand.func 19), args := #[Operand.tmp 19], argTypes := #[35] }, type := 35, pos := "law.go:177", after := #[{ on := 4, ground := Ground.data }, { on := 3, ground := Ground.chain }], guard := none }, { dst := some 7, op := Op.alloc 35, type := 0, pos := "law.go:177", after := #[], guard := none }, { dst := some 8, op := Op.alloc 35, type := 0, pos := "law.go:177", after := #[], guard := none }, { dst := some 9, op := Op.alloc 35, type := 0, pos := "law.go:177", after := #[], guard := none }, { dst := none, op := Op.store 35 (Operand.tmp 7) (Operand.tmp 16), type := 0, pos := "law.go:177", after := #[{ on := 6, ground := Ground.data }, { on := 1, ground := Ground.data }, { on := 5, ground := Ground.chain }, { on := 0, ground := Ground.phase }, { on := 1, ground := Ground.phase }, { on := 2, ground := Ground.textOnly Departure.lateStores }, { on := 3, ground := Ground.textOnly Departure.lateStoresUnsure }, { on := 4, ground := Ground.textOnly Departure.lateStores }, { on := 5, ground := Ground.textOnly Departure.lateStoresUnsure }, { on := 6, ground := Ground.phase }, { on := 7, ground := Ground.phase }, { on := 8, ground := Ground.phase }], guard := none }, { dst := none, op := Op.store 35 (Operand.tmp 8) (Operand.tmp 18), type := 0, pos := "law.go:177", after := #[{ on := 7, ground := Ground.data }, { on := 3, ground := Ground.data }, { on := 9, ground := Ground.chain }, { on := 0, ground := Ground.phase }, { on := 1, ground := Ground.phase }, { on := 2, ground := Ground.phase }, { on := 3, ground := Ground.phase }, { on := 4, ground := Ground.textOnly Departure.lateStores }, { on := 5, ground := Ground.textOnly Departure.lateStoresUnsure }, { on := 6, ground := Ground.phase }, { on := 7, ground := Ground.phase }, { on := 8, ground := Ground.phase }, { on := 9, ground := Ground.phase }], guard := none }, { dst := none, op := Op.store 35 (Operand.tmp 9) (Operand.tmp 20), type := 0, pos := "law.go:177", after := #[{ on := 8, ground := Ground.data }, { on := 5, ground := Ground.data }, { on := 10, ground := Ground.chain }, { on := 0, ground := Ground.phase }, { on := 1, ground := Ground.phase }, { on := 2, ground := Ground.phase }, { on := 3, ground := Ground.phase }, { on := 4, ground := Ground.phase }, { on := 5, ground := Ground.phase }, { on := 6, ground := Ground.phase }, { on := 7, ground := Ground.phase }, { on := 8, ground := Ground.phase }, { on := 9, ground := Ground.phase }, { on := 10, ground := Ground.phase }], guard := none }]
def order3Act (s0 s1 s2 s3 s4 s5 s6 s13 s14 v7 v8 v9 v15 v16 v17 v18 v19 v20 : Value) : Act := ⟨#[s0, s1, s2, s3, s4, s5, s6, v7, v8, v9, undef, undef, undef, s13, s14, v15, v16, v17, v18, v19, v20, undef, undef, undef, undef, undef, undef, undef, undef, undef, undef, undef, undef, undef, undef, undef, undef, undef, undef, undef, undef, undef, undef, undef, undef, undef, undef, undef, undef, undef, undef, undef, undef, undef, undef, undef, undef, undef, undef, undef, undef, undef, undef, undef, undef, undef, undef, undef, undef, undef, undef, undef, undef, undef, undef, undef, undef, undef, undef, undef, undef, undef, undef, undef, undef, undef], []⟩

set_option maxRecDepth 100000 in
set_option maxHeartbeats 8000000 in
theorem order3_region {e0 e1 e2 : EntD} {g0 g1 g2 : Nat} {X : World} (h0 : EBox X g0 e0) (k0 : EntD.Ok X e0) (h1 : EBox X g1 e1) (k1 : EntD.Ok X e1) (h2 : EBox X g2 e2) (k2 : EntD.Ok X e2) (s0 s1 s2 s6 s13 s14 : Value) (Q : Exit → Act → World → Prop)
    (hQ : Hid (∀ (b0 b1 b2 : Nat) (D0 D1 D2 : EntD) (wF : World), EBox wF b0 D0 → EBox wF b1 D1 → EBox wF b2 D2 → b0 ≠ b1 → b0 ≠ b2 → b1 ≠ b2 → X.heap.size ≤ b0 → X.heap.size ≤ b1 → X.heap.size ≤ b2 → LaidE wF X.heap.size D0 → LaidE wF X.heap.size D1 → LaidE wF X.heap.size D2 → EntD.Same D0 e0.cut → EntD.Same D1 e1.cut → EntD.Same D2 e2.cut → Below X.heap.size X wF → Q .normal (order3Act s0 s1 s2 (.pointer (some ⟨g0, 0, none⟩)) (.pointer (some ⟨g1, 0, none⟩)) (.pointer (some ⟨g2, 0, none⟩)) s6 s13 s14 (.pointer (some ⟨b0, 0, none⟩)) (.pointer (some ⟨b1, 0, none⟩)) (.pointer (some ⟨b2, 0, none⟩)) (.agg e0.cells) (.agg D0.cells) (.agg e1.cells) (.agg D1.cells) (.agg e2.cells) (.agg D2.cells)) wF)) :
    Code.wp Try.prog (Code.region 3 order3Ops true) Q (order3Act s0 s1 s2 (.pointer (some ⟨g0, 0, none⟩)) (.pointer (some ⟨g1, 0, none⟩)) (.pointer (some ⟨g2, 0, none⟩)) s6 s13 s14 undef undef undef undef undef undef undef undef undef) X := by
  have HK : Hid (EntD.Ok X e0 ∧ EntD.Ok X e1 ∧ EntD.Ok X e2 ∧ True) := ⟨k0, k1, k2, trivial⟩
  have XD : Below X.heap.size X X.drew := (Below.refl _ _).drew
  have HB : Hid (EBox X g0 e0 ∧ EBox X g1 e1 ∧ EBox X g2 e2 ∧ True) := ⟨h0, h1, h2, trivial⟩
  clear h0 k0 h1 k1 h2 k2
  refine wp_region_noPanic ?_
  have st3_7 : ∀ (wx : World) (b0 b1 b2 : Nat) (D0 D1 D2 : EntD), (fun wx => EBox wx g0 e0 ∧ EBox wx g1 e1 ∧ EBox wx g2 e2 ∧ Below X.heap.size X wx) wx → EBox wx b0 zeroD → EBox wx b1 zeroD → EBox wx b2 zeroD → b0 ≠ b1 → b0 ≠ b2 → b1 ≠ b2 → X.heap.size ≤ b0 → X.heap.size ≤ b1 → X.heap.size ≤ b2 → LaidE wx X.heap.size D0 → LaidE wx X.heap.size D1 → LaidE wx X.heap.size D2 → EntD.Same D0 e0.cut → EntD.Same D1 e1.cut → EntD.Same D2 e2.cut → wpAnyH Try.prog .any order3Ops (NoPanic Q) (fun wx => EBox wx g0 e0 ∧ EBox wx g1 e1 ∧ EBox wx g2 e2 ∧ Below X.heap.size X wx) 3 #[true, true, true, true, true, true, true, true, true, false, false, false] (order3Act s0 s1 s2 (.pointer (some ⟨g0, 0, none⟩)) (.pointer (some ⟨g1, 0, none⟩)) (.pointer (some ⟨g2, 0, none⟩)) s6 s13 s14 (.pointer (some ⟨b0, 0, none⟩)) (.pointer (some ⟨b1, 0, none⟩)) (.pointer (some ⟨b2, 0, none⟩)) (.agg e0.cells) (.agg D0.cells) (.agg e1.cells) (.agg D1.cells) (.agg e2.cells) (.agg D2.cells)) wx := by
    intro wx b0 b1 b2 D0 D1 D2 hS x0 x1 x2 n01 n02 n12 r0 r1 r2 l0 l1 l2 q0 q1 q2
    have y0 : EBox wx b0 zeroD := x0
    have y1 : EBox (filled wx b0 D0) b1 zeroD := (x1.apart (filled_apart _ b0 D0) (Ne.symm n01))
    have y2 : EBox (filled (filled wx b0 D0) b1 D1) b2 zeroD := ((x2.apart (filled_apart _ b0 D0) (Ne.symm n02)).apart (filled_apart _ b1 D1) (Ne.symm n12))
    refine wpAnyH_ready (rs := [9]) (by kernel_rfl) (by simp) ?_
    refine AllReadyH.cons (o := { dst := none, op := Op.store 35 (Operand.tmp 7) (Operand.tmp 16), type := 0, pos := "law.go:177", after := #[{ on := 6, ground := Ground.data }, { on := 1, ground := Ground.data }, { on := 5, ground := Ground.chain }, { on := 0, ground := Ground.phase }, { on := 1, ground := Ground.phase }, { on := 2, ground := Ground.textOnly Departure.lateStores }, { on := 3, ground := Ground.textOnly Departure.lateStoresUnsure }, { on := 4, ground := Ground.textOnly Departure.lateStores }, { on := 5, ground := Ground.textOnly Departure.lateStoresUnsure }, { on := 6, ground := Ground.phase }, { on := 7, ground := Ground.phase }, { on := 8, ground := Ground.phase }], guard := none }) rfl (fun K hK => ?_) AllReadyH.nil
    rw [if_pos (by rfl)]
    refine wp_store_entry y0 l0 rfl rfl ?_
    refine hK.out _ _ ?_ (fun hS' => ?_)
    · exact ⟨(hS.1.apart (filled_apart _ b0 D0) (ne_of_lt_le (ebox_lt HB.out.1) r0)), (hS.2.1.apart (filled_apart _ b0 D0) (ne_of_lt_le (ebox_lt HB.out.2.1) r0)), (hS.2.2.1.apart (filled_apart _ b0 D0) (ne_of_lt_le (ebox_lt HB.out.2.2.1) r0)), ((hS.2.2.2).trans ((filled_apart _ b0 D0).below r0 (hS.2.2.2).size))⟩
    refine wpAnyH_ready (rs := [10]) (by kernel_rfl) (by simp) ?_
    refine AllReadyH.cons (o := { dst := none, op := Op.store 35 (Operand.tmp 8) (Operand.tmp 18), type := 0, pos := "law.go:177", after := #[{ on := 7, ground := Ground.data }, { on := 3, ground := Ground.data }, { on := 9, ground := Ground.chain }, { on := 0, ground := Ground.phase }, { on := 1, ground := Ground.phase }, { on := 2, ground := Ground.phase }, { on := 3, ground := Ground.phase }, { on := 4, ground := Ground.textOnly Departure.lateStores }, { on := 5, ground := Ground.textOnly Departure.lateStoresUnsure }, { on := 6, ground := Ground.phase }, { on := 7, ground := Ground.phase }, { on := 8, ground := Ground.phase }, { on := 9, ground := Ground.phase }], guard := none }) rfl (fun K hK => ?_) AllReadyH.nil
    rw [if_pos (by rfl)]
    refine wp_store_entry y1 l1 rfl rfl ?_
    refine hK.out _ _ ?_ (fun hS' => ?_)
    · exact ⟨((hS.1.apart (filled_apart _ b0 D0) (ne_of_lt_le (ebox_lt HB.out.1) r0)).apart (filled_apart _ b1 D1) (ne_of_lt_le (ebox_lt HB.out.1) r1)), ((hS.2.1.apart (filled_apart _ b0 D0) (ne_of_lt_le (ebox_lt HB.out.2.1) r0)).apart (filled_apart _ b1 D1) (ne_of_lt_le (ebox_lt HB.out.2.1) r1)), ((hS.2.2.1.apart (filled_apart _ b0 D0) (ne_of_lt_le (ebox_lt HB.out.2.2.1) r0)).apart (filled_apart _ b1 D1) (ne_of_lt_le (ebox_lt HB.out.2.2.1) r1)), (((hS.2.2.2).trans ((filled_apart _ b0 D0).below r0 (hS.2.2.2).size)).trans ((filled_apart _ b1 D1).below r1 ((hS.2.2.2).trans ((filled_apart _ b0 D0).below r0 (hS.2.2.2).size)).size))⟩
    refine wpAnyH_ready (rs := [11]) (by kernel_rfl) (by simp) ?_
    refine AllReadyH.cons (o := { dst := none, op := Op.store 35 (Operand.tmp 9) (Operand.tmp 20), type := 0, pos := "law.go:177", after := #[{ on := 8, ground := Ground.data }, { on := 5, ground := Ground.data }, { on := 10, ground := Ground.chain }, { on := 0, ground := Ground.phase }, { on := 1, ground := Ground.phase }, { on := 2, ground := Ground.phase }, { on := 3, ground := Ground.phase }, { on := 4, ground := Ground.phase }, { on := 5, ground := Ground.phase }, { on := 6, ground := Ground.phase }, { on := 7, ground := Ground.phase }, { on := 8, ground := Ground.phase }, { on := 9, ground := Ground.phase }, { on := 10, ground := Ground.phase }], guard := none }) rfl (fun K hK => ?_) AllReadyH.nil
    rw [if_pos (by rfl)]
    refine wp_store_entry y2 l2 rfl rfl ?_
    refine hK.out _ _ ?_ (fun hS' => ?_)
    · exact ⟨(((hS.1.apart (filled_apart _ b0 D0) (ne_of_lt_le (ebox_lt HB.out.1) r0)).apart (filled_apart _ b1 D1) (ne_of_lt_le (ebox_lt HB.out.1) r1)).apart (filled_apart _ b2 D2) (ne_of_lt_le (ebox_lt HB.out.1) r2)), (((hS.2.1.apart (filled_apart _ b0 D0) (ne_of_lt_le (ebox_lt HB.out.2.1) r0)).apart (filled_apart _ b1 D1) (ne_of_lt_le (ebox_lt HB.out.2.1) r1)).apart (filled_apart _ b2 D2) (ne_of_lt_le (ebox_lt HB.out.2.1) r2)), (((hS.2.2.1.apart (filled_apart _ b0 D0) (ne_of_lt_le (ebox_lt HB.out.2.2.1) r0)).apart (filled_apart _ b1 D1) (ne_of_lt_le (ebox_lt HB.out.2.2.1) r1)).apart (filled_apart _ b2 D2) (ne_of_lt_le (ebox_lt HB.out.2.2.1) r2)), ((((hS.2.2.2).trans ((filled_apart _ b0 D0).below r0 (hS.2.2.2).size)).trans ((filled_apart _ b1 D1).below r1 ((hS.2.2.2).trans ((filled_apart _ b0 D0).below r0 (hS.2.2.2).size)).size)).trans ((filled_apart _ b2 D2).below r2 (((hS.2.2.2).trans ((filled_apart _ b0 D0).below r0 (hS.2.2.2).size)).trans ((filled_apart _ b1 D1).below r1 ((hS.2.2.2).trans ((filled_apart _ b0 D0).below r0 (hS.2.2.2).size)).size)).size))⟩
    refine wpAnyH_done (by kernel_rfl) ?_ _
    exact NoPanic.normal (hQ.out b0 b1 b2 D0 D1 D2 _ (((filled_box y0 D0).apart (filled_apart _ b1 D1) n01).apart (filled_apart _ b2 D2) n02) ((filled_box y1 D1).apart (filled_apart _ b2 D2) n12) (filled_box y2 D2) n01 n02 n12 r0 r1 r2 (((l0.fillE y0).fillE y1).fillE y2) (((l1.fillE y0).fillE y1).fillE y2) (((l2.fillE y0).fillE y1).fillE y2) q0 q1 q2 ((((hS.2.2.2).trans ((filled_apart _ b0 D0).below r0 (hS.2.2.2).size)).trans ((filled_apart _ b1 D1).below r1 ((hS.2.2.2).trans ((filled_apart _ b0 D0).below r0 (hS.2.2.2).size)).size)).trans ((filled_apart _ b2 D2).below r2 (((hS.2.2.2).trans ((filled_apart _ b0 D0).below r0 (hS.2.2.2).size)).trans ((filled_apart _ b1 D1).below r1 ((hS.2.2.2).trans ((filled_apart _ b0 D0).below r0 (hS.2.2.2).size)).size)).size)))
  have st3_3 : ∀ (wx : World) (b0 b1 : Nat) (D0 D1 D2 : EntD), (fun wx => EBox wx g0 e0 ∧ EBox wx g1 e1 ∧ EBox wx g2 e2 ∧ Below X.heap.size X wx) wx → EBox wx b0 zeroD → EBox wx b1 zeroD → b0 ≠ b1 → X.heap.size ≤ b0 → X.heap.size ≤ b1 → LaidE wx X.heap.size D0 → LaidE wx X.heap.size D1 → LaidE wx X.heap.size D2 → EntD.Same D0 e0.cut → EntD.Same D1 e1.cut → EntD.Same D2 e2.cut → wpAnyH Try.prog .any order3Ops (NoPanic Q) (fun wx => EBox wx g0 e0 ∧ EBox wx g1 e1 ∧ EBox wx g2 e2 ∧ Below X.heap.size X wx) 4 #[true, true, true, true, true, true, true, true, false, false, false, false] (order3Act s0 s1 s2 (.pointer (some ⟨g0, 0, none⟩)) (.pointer (some ⟨g1, 0, none⟩)) (.pointer (some ⟨g2, 0, none⟩)) s6 s13 s14 (.pointer (some ⟨b0, 0, none⟩)) (.pointer (some ⟨b1, 0, none⟩)) undef (.agg e0.cells) (.agg D0.cells) (.agg e1.cells) (.agg D1.cells) (.agg e2.cells) (.agg D2.cells)) wx := by
    intro wx b0 b1 D0 D1 D2 hS x0 x1 n01 r0 r1 l0 l1 l2 q0 q1 q2
    refine wpAnyH_ready (rs := [8]) (by kernel_rfl) (by simp) ?_
    refine AllReadyH.cons (o := { dst := some 9, op := Op.alloc 35, type := 0, pos := "law.go:177", after := #[], guard := none }) rfl (fun K hK => ?_) ?_
    · rw [if_pos (by rfl)]
      refine wp_alloc_entry ?_
      refine hK.out _ _ ?_ (fun hS' => ?_)
      · exact ⟨(hS.1).later ((Below.refl wx.heap.size wx).alloc (Nat.le_refl _) (.cells zeroD.cells 35)), (hS.2.1).later ((Below.refl wx.heap.size wx).alloc (Nat.le_refl _) (.cells zeroD.cells 35)), (hS.2.2.1).later ((Below.refl wx.heap.size wx).alloc (Nat.le_refl _) (.cells zeroD.cells 35)), (hS.2.2.2).trans (((Below.refl wx.heap.size wx).alloc (Nat.le_refl _) (.cells zeroD.cells 35)).mono (hS.2.2.2).size)⟩
      · exact st3_7 _ b0 b1 wx.heap.size D0 D1 D2 hS' (x0.later ((Below.refl wx.heap.size wx).alloc (Nat.le_refl _) (.cells zeroD.cells 35))) (x1.later ((Below.refl wx.heap.size wx).alloc (Nat.le_refl _) (.cells zeroD.cells 35))) (EBox.new wx zeroD) n01 (ebox_ne x0) (ebox_ne x1) r0 r1 (hS.2.2.2).size (l0.later ((Below.refl wx.heap.size wx).alloc (Nat.le_refl _) (.cells zeroD.cells 35))) (l1.later ((Below.refl wx.heap.size wx).alloc (Nat.le_refl _) (.cells zeroD.cells 35))) (l2.later ((Below.refl wx.heap.size wx).alloc (Nat.le_refl _) (.cells zeroD.cells 35))) q0 q1 q2
    exact AllReadyH.nil
  have st3_5 : ∀ (wx : World) (b0 b2 : Nat) (D0 D1 D2 : EntD), (fun wx => EBox wx g0 e0 ∧ EBox wx g1 e1 ∧ EBox wx g2 e2 ∧ Below X.heap.size X wx) wx → EBox wx b0 zeroD → EBox wx b2 zeroD → b0 ≠ b2 → X.heap.size ≤ b0 → X.heap.size ≤ b2 → LaidE wx X.heap.size D0 → LaidE wx X.heap.size D1 → LaidE wx X.heap.size D2 → EntD.Same D0 e0.cut → EntD.Same D1 e1.cut → EntD.Same D2 e2.cut → wpAnyH Try.prog .any order3Ops (NoPanic Q) (fun wx => EBox wx g0 e0 ∧ EBox wx g1 e1 ∧ EBox wx g2 e2 ∧ Below X.heap.size X wx) 4 #[true, true, true, true, true, true, true, false, true, false, false, false] (order3Act s0 s1 s2 (.pointer (some ⟨g0, 0, none⟩)) (.pointer (some ⟨g1, 0, none⟩)) (.pointer (some ⟨g2, 0, none⟩)) s6 s13 s14 (.pointer (some ⟨b0, 0, none⟩)) undef (.pointer (some ⟨b2, 0, none⟩)) (.agg e0.cells) (.agg D0.cells) (.agg e1.cells) (.agg D1.cells) (.agg e2.cells) (.agg D2.cells)) wx := by
    intro wx b0 b2 D0 D1 D2 hS x0 x2 n02 r0 r2 l0 l1 l2 q0 q1 q2
    refine wpAnyH_ready (rs := [7]) (by kernel_rfl) (by simp) ?_
    refine AllReadyH.cons (o := { dst := some 8, op := Op.alloc 35, type := 0, pos := "law.go:177", after := #[], guard := none }) rfl (fun K hK => ?_) ?_
    · rw [if_pos (by rfl)]
      refine wp_alloc_entry ?_
      refine hK.out _ _ ?_ (fun hS' => ?_)
      · exact ⟨(hS.1).later ((Below.refl wx.heap.size wx).alloc (Nat.le_refl _) (.cells zeroD.cells 35)), (hS.2.1).later ((Below.refl wx.heap.size wx).alloc (Nat.le_refl _) (.cells zeroD.cells 35)), (hS.2.2.1).later ((Below.refl wx.heap.size wx).alloc (Nat.le_refl _) (.cells zeroD.cells 35)), (hS.2.2.2).trans (((Below.refl wx.heap.size wx).alloc (Nat.le_refl _) (.cells zeroD.cells 35)).mono (hS.2.2.2).size)⟩
      · exact st3_7 _ b0 wx.heap.size b2 D0 D1 D2 hS' (x0.later ((Below.refl wx.heap.size wx).alloc (Nat.le_refl _) (.cells zeroD.cells 35))) (EBox.new wx zeroD) (x2.later ((Below.refl wx.heap.size wx).alloc (Nat.le_refl _) (.cells zeroD.cells 35))) (ebox_ne x0) n02 (Ne.symm (ebox_ne x2)) r0 (hS.2.2.2).size r2 (l0.later ((Below.refl wx.heap.size wx).alloc (Nat.le_refl _) (.cells zeroD.cells 35))) (l1.later ((Below.refl wx.heap.size wx).alloc (Nat.le_refl _) (.cells zeroD.cells 35))) (l2.later ((Below.refl wx.heap.size wx).alloc (Nat.le_refl _) (.cells zeroD.cells 35))) q0 q1 q2
    exact AllReadyH.nil
  have st3_6 : ∀ (wx : World) (b1 b2 : Nat) (D0 D1 D2 : EntD), (fun wx => EBox wx g0 e0 ∧ EBox wx g1 e1 ∧ EBox wx g2 e2 ∧ Below X.heap.size X wx) wx → EBox wx b1 zeroD → EBox wx b2 zeroD → b1 ≠ b2 → X.heap.size ≤ b1 → X.heap.size ≤ b2 → LaidE wx X.heap.size D0 → LaidE wx X.heap.size D1 → LaidE wx X.heap.size D2 → EntD.Same D0 e0.cut → EntD.Same D1 e1.cut → EntD.Same D2 e2.cut → wpAnyH Try.prog .any order3Ops (NoPanic Q) (fun wx => EBox wx g0 e0 ∧ EBox wx g1 e1 ∧ EBox wx g2 e2 ∧ Below X.heap.size X wx) 4 #[true, true, true, true, true, true, false, true, true, false, false, false] (order3Act s0 s1 s2 (.pointer (some ⟨g0, 0, none⟩)) (.pointer (some ⟨g1, 0, none⟩)) (.pointer (some ⟨g2, 0, none⟩)) s6 s13 s14 undef (.pointer (some ⟨b1, 0, none⟩)) (.pointer (some ⟨b2, 0, none⟩)) (.agg e0.cells) (.agg D0.cells) (.agg e1.cells) (.agg D1.cells) (.agg e2.cells) (.agg D2.cells)) wx := by
    intro wx b1 b2 D0 D1 D2 hS x1 x2 n12 r1 r2 l0 l1 l2 q0 q1 q2
    refine wpAnyH_ready (rs := [6]) (by kernel_rfl) (by simp) ?_
    refine AllReadyH.cons (o := { dst := some 7, op := Op.alloc 35, type := 0, pos := "law.go:177", after := #[], guard := none }) rfl (fun K hK => ?_) ?_
    · rw [if_pos (by rfl)]
      refine wp_alloc_entry ?_
      refine hK.out _ _ ?_ (fun hS' => ?_)
      · exact ⟨(hS.1).later ((Below.refl wx.heap.size wx).alloc (Nat.le_refl _) (.cells zeroD.cells 35)), (hS.2.1).later ((Below.refl wx.heap.size wx).alloc (Nat.le_refl _) (.cells zeroD.cells 35)), (hS.2.2.1).later ((Below.refl wx.heap.size wx).alloc (Nat.le_refl _) (.cells zeroD.cells 35)), (hS.2.2.2).trans (((Below.refl wx.heap.size wx).alloc (Nat.le_refl _) (.cells zeroD.cells 35)).mono (hS.2.2.2).size)⟩
      · exact st3_7 _ wx.heap.size b1 b2 D0 D1 D2 hS' (EBox.new wx zeroD) (x1.later ((Below.refl wx.heap.size wx).alloc (Nat.le_refl _) (.cells zeroD.cells 35))) (x2.later ((Below.refl wx.heap.size wx).alloc (Nat.le_refl _) (.cells zeroD.cells 35))) (Ne.symm (ebox_ne x1)) (Ne.symm (ebox_ne x2)) n12 (hS.2.2.2).size r1 r2 (l0.later ((Below.refl wx.heap.size wx).alloc (Nat.le_refl _) (.cells zeroD.cells 35))) (l1.later ((Below.refl wx.heap.size wx).alloc (Nat.le_refl _) (.cells zeroD.cells 35))) (l2.later ((Below.refl wx.heap.size wx).alloc (Nat.le_refl _) (.cells zeroD.cells 35))) q0 q1 q2
    exact AllReadyH.nil
  have st3_1 : ∀ (wx : World) (b0 : Nat) (D0 D1 D2 : EntD), (fun wx => EBox wx g0 e0 ∧ EBox wx g1 e1 ∧ EBox wx g2 e2 ∧ Below X.heap.size X wx) wx → EBox wx b0 zeroD → X.heap.size ≤ b0 → LaidE wx X.heap.size D0 → LaidE wx X.heap.size D1 → LaidE wx X.heap.size D2 → EntD.Same D0 e0.cut → EntD.Same D1 e1.cut → EntD.Same D2 e2.cut → wpAnyH Try.prog .any order3Ops (NoPanic Q) (fun wx => EBox wx g0 e0 ∧ EBox wx g1 e1 ∧ EBox wx g2 e2 ∧ Below X.heap.size X wx) 5 #[true, true, true, true, true, true, true, false, false, false, false, false] (order3Act s0 s1 s2 (.pointer (some ⟨g0, 0, none⟩)) (.pointer (some ⟨g1, 0, none⟩)) (.pointer (some ⟨g2, 0, none⟩)) s6 s13 s14 (.pointer (some ⟨b0, 0, none⟩)) undef undef (.agg e0.cells) (.agg D0.cells) (.agg e1.cells) (.agg D1.cells) (.agg e2.cells) (.agg D2.cells)) wx := by
    intro wx b0 D0 D1 D2 hS x0 r0 l0 l1 l2 q0 q1 q2
    refine wpAnyH_ready (rs := [7, 8]) (by kernel_rfl) (by simp) ?_
    refine AllReadyH.cons (o := { dst := some 8, op := Op.alloc 35, type := 0, pos := "law.go:177", after := #[], guard := none }) rfl (fun K hK => ?_) ?_
    · rw [if_pos (by rfl)]
      refine wp_alloc_entry ?_
      refine hK.out _ _ ?_ (fun hS' => ?_)
      · exact ⟨(hS.1).later ((Below.refl wx.heap.size wx).alloc (Nat.le_refl _) (.cells zeroD.cells 35)), (hS.2.1).later ((Below.refl wx.heap.size wx).alloc (Nat.le_refl _) (.cells zeroD.cells 35)), (hS.2.2.1).later ((Below.refl wx.heap.size wx).alloc (Nat.le_refl _) (.cells zeroD.cells 35)), (hS.2.2.2).trans (((Below.refl wx.heap.size wx).alloc (Nat.le_refl _) (.cells zeroD.cells 35)).mono (hS.2.2.2).size)⟩
      · exact st3_3 _ b0 wx.heap.size D0 D1 D2 hS' (x0.later ((Below.refl wx.heap.size wx).alloc (Nat.le_refl _) (.cells zeroD.cells 35))) (EBox.new wx zeroD) (ebox_ne x0) r0 (hS.2.2.2).size (l0.later ((Below.refl wx.heap.size wx).alloc (Nat.le_refl _) (.cells zeroD.cells 35))) (l1.later ((Below.refl wx.heap.size wx).alloc (Nat.le_refl _) (.cells zeroD.cells 35))) (l2.later ((Below.refl wx.heap.size wx).alloc (Nat.le_refl _) (.cells zeroD.cells 35))) q0 q1 q2
    refine AllReadyH.cons (o := { dst := some 9, op := Op.alloc 35, type := 0, pos := "law.go:177", after := #[], guard := none }) rfl (fun K hK => ?_) ?_
    · rw [if_pos (by rfl)]
      refine wp_alloc_entry ?_
      refine hK.out _ _ ?_ (fun hS' => ?_)
      · exact ⟨(hS.1).later ((Below.refl wx.heap.size wx).alloc (Nat.le_refl _) (.cells zeroD.cells 35)), (hS.2.1).later ((Below.refl wx.heap.size wx).alloc (Nat.le_refl _) (.cells zeroD.cells 35)), (hS.2.2.1).later ((Below.refl wx.heap.size wx).alloc (Nat.le_refl _) (.cells zeroD.cells 35)), (hS.2.2.2).trans (((Below.refl wx.heap.size wx).alloc (Nat.le_refl _) (.cells zeroD.cells 35)).mono (hS.2.2.2).size)⟩
      · exact st3_5 _ b0 wx.heap.size D0 D1 D2 hS' (x0.later ((Below.refl wx.heap.size wx).alloc (Nat.le_refl _) (.cells zeroD.cells 35))) (EBox.new wx zeroD) (ebox_ne x0) r0 (hS.2.2.2).size (l0.later ((Below.refl wx.heap.size wx).alloc (Nat.le_refl _) (.cells zeroD.cells 35))) (l1.later ((Below.refl wx.heap.size wx).alloc (Nat.le_refl _) (.cells zeroD.cells 35))) (l2.later ((Below.refl wx.heap.size wx).alloc (Nat.le_refl _) (.cells zeroD.cells 35))) q0 q1 q2
    exact AllReadyH.nil
  have st3_2 : ∀ (wx : World) (b1 : Nat) (D0 D1 D2 : EntD), (fun wx => EBox wx g0 e0 ∧ EBox wx g1 e1 ∧ EBox wx g2 e2 ∧ Below X.heap.size X wx) wx → EBox wx b1 zeroD → X.heap.size ≤ b1 → LaidE wx X.heap.size D0 → LaidE wx X.heap.size D1 → LaidE wx X.heap.size D2 → EntD.Same D0 e0.cut → EntD.Same D1 e1.cut → EntD.Same D2 e2.cut → wpAnyH Try.prog .any order3Ops (NoPanic Q) (fun wx => EBox wx g0 e0 ∧ EBox wx g1 e1 ∧ EBox wx g2 e2 ∧ Below X.heap.size X wx) 5 #[true, true, true, true, true, true, false, true, false, false, false, false] (order3Act s0 s1 s2 (.pointer (some ⟨g0, 0, none⟩)) (.pointer (some ⟨g1, 0, none⟩)) (.pointer (some ⟨g2, 0, none⟩)) s6 s13 s14 undef (.pointer (some ⟨b1, 0, none⟩)) undef (.agg e0.cells) (.agg D0.cells) (.agg e1.cells) (.agg D1.cells) (.agg e2.cells) (.agg D2.cells)) wx := by
    intro wx b1 D0 D1 D2 hS x1 r1 l0 l1 l2 q0 q1 q2
    refine wpAnyH_ready (rs := [6, 8]) (by kernel_rfl) (by simp) ?_
    refine AllReadyH.cons (o := { dst := some 7, op := Op.alloc 35, type := 0, pos := "law.go:177", after := #[], guard := none }) rfl (fun K hK => ?_) ?_
    · rw [if_pos (by rfl)]
      refine wp_alloc_entry ?_
      refine hK.out _ _ ?_ (fun hS' => ?_)
      · exact ⟨(hS.1).later ((Below.refl wx.heap.size wx).alloc (Nat.le_refl _) (.cells zeroD.cells 35)), (hS.2.1).later ((Below.refl wx.heap.size wx).alloc (Nat.le_refl _) (.cells zeroD.cells 35)), (hS.2.2.1).later ((Below.refl wx.heap.size wx).alloc (Nat.le_refl _) (.cells zeroD.cells 35)), (hS.2.2.2).trans (((Below.refl wx.heap.size wx).alloc (Nat.le_refl _) (.cells zeroD.cells 35)).mono (hS.2.2.2).size)⟩
      · exact st3_3 _ wx.heap.size b1 D0 D1 D2 hS' (EBox.new wx zeroD) (x1.later ((Below.refl wx.heap.size wx).alloc (Nat.le_refl _) (.cells zeroD.cells 35))) (Ne.symm (ebox_ne x1)) (hS.2.2.2).size r1 (l0.later ((Below.refl wx.heap.size wx).alloc (Nat.le_refl _) (.cells zeroD.cells 35))) (l1.later ((Below.refl wx.heap.size wx).alloc (Nat.le_refl _) (.cells zeroD.cells 35))) (l2.later ((Below.refl wx.heap.size wx).alloc (Nat.le_refl _) (.cells zeroD.cells 35))) q0 q1 q2
    refine AllReadyH.cons (o := { dst := some 9, op := Op.alloc 35, type := 0, pos := "law.go:177", after := #[], guard := none }) rfl (fun K hK => ?_) ?_
    · rw [if_pos (by rfl)]
      refine wp_alloc_entry ?_
      refine hK.out _ _ ?_ (fun hS' => ?_)
      · exact ⟨(hS.1).later ((Below.refl wx.heap.size wx).alloc (Nat.le_refl _) (.cells zeroD.cells 35)), (hS.2.1).later ((Below.refl wx.heap.size wx).alloc (Nat.le_refl _) (.cells zeroD.cells 35)), (hS.2.2.1).later ((Below.refl wx.heap.size wx).alloc (Nat.le_refl _) (.cells zeroD.cells 35)), (hS.2.2.2).trans (((Below.refl wx.heap.size wx).alloc (Nat.le_refl _) (.cells zeroD.cells 35)).mono (hS.2.2.2).size)⟩
      · exact st3_6 _ b1 wx.heap.size D0 D1 D2 hS' (x1.later ((Below.refl wx.heap.size wx).alloc (Nat.le_refl _) (.cells zeroD.cells 35))) (EBox.new wx zeroD) (ebox_ne x1) r1 (hS.2.2.2).size (l0.later ((Below.refl wx.heap.size wx).alloc (Nat.le_refl _) (.cells zeroD.cells 35))) (l1.later ((Below.refl wx.heap.size wx).alloc (Nat.le_refl _) (.cells zeroD.cells 35))) (l2.later ((Below.refl wx.heap.size wx).alloc (Nat.le_refl _) (.cells zeroD.cells 35))) q0 q1 q2
    exact AllReadyH.nil
  have st3_4 : ∀ (wx : World) (b2 : Nat) (D0 D1 D2 : EntD), (fun wx => EBox wx g0 e0 ∧ EBox wx g1 e1 ∧ EBox wx g2 e2 ∧ Below X.heap.size X wx) wx → EBox wx b2 zeroD → X.heap.size ≤ b2 → LaidE wx X.heap.size D0 → LaidE wx X.heap.size D1 → LaidE wx X.heap.size D2 → EntD.Same D0 e0.cut → EntD.Same D1 e1.cut → EntD.Same D2 e2.cut → wpAnyH Try.prog .any order3Ops (NoPanic Q) (fun wx => EBox wx g0 e0 ∧ EBox wx g1 e1 ∧ EBox wx g2 e2 ∧ Below X.heap.size X wx) 5 #[true, true, true, true, true, true, false, false, true, false, false, false] (order3Act s0 s1 s2 (.pointer (some ⟨g0, 0, none⟩)) (.pointer (some ⟨g1, 0, none⟩)) (.pointer (some ⟨g2, 0, none⟩)) s6 s13 s14 undef undef (.pointer (some ⟨b2, 0, none⟩)) (.agg e0.cells) (.agg D0.cells) (.agg e1.cells) (.agg D1.cells) (.agg e2.cells) (.agg D2.cells)) wx := by
    intro wx b2 D0 D1 D2 hS x2 r2 l0 l1 l2 q0 q1 q2
    refine wpAnyH_ready (rs := [6, 7]) (by kernel_rfl) (by simp) ?_
    refine AllReadyH.cons (o := { dst := some 7, op := Op.alloc 35, type := 0, pos := "law.go:177", after := #[], guard := none }) rfl (fun K hK => ?_) ?_
    · rw [if_pos (by rfl)]
      refine wp_alloc_entry ?_
      refine hK.out _ _ ?_ (fun hS' => ?_)
      · exact ⟨(hS.1).later ((Below.refl wx.heap.size wx).alloc (Nat.le_refl _) (.cells zeroD.cells 35)), (hS.2.1).later ((Below.refl wx.heap.size wx).alloc (Nat.le_refl _) (.cells zeroD.cells 35)), (hS.2.2.1).later ((Below.refl wx.heap.size wx).alloc (Nat.le_refl _) (.cells zeroD.cells 35)), (hS.2.2.2).trans (((Below.refl wx.heap.size wx).alloc (Nat.le_refl _) (.cells zeroD.cells 35)).mono (hS.2.2.2).size)⟩
      · exact st3_5 _ wx.heap.size b2 D0 D1 D2 hS' (EBox.new wx zeroD) (x2.later ((Below.refl wx.heap.size wx).alloc (Nat.le_refl _) (.cells zeroD.cells 35))) (Ne.symm (ebox_ne x2)) (hS.2.2.2).size r2 (l0.later ((Below.refl wx.heap.size wx).alloc (Nat.le_refl _) (.cells zeroD.cells 35))) (l1.later ((Below.refl wx.heap.size wx).alloc (Nat.le_refl _) (.cells zeroD.cells 35))) (l2.later ((Below.refl wx.heap.size wx).alloc (Nat.le_refl _) (.cells zeroD.cells 35))) q0 q1 q2
    refine AllReadyH.cons (o := { dst := some 8, op := Op.alloc 35, type := 0, pos := "law.go:177", after := #[], guard := none }) rfl (fun K hK => ?_) ?_
    · rw [if_pos (by rfl)]
      refine wp_alloc_entry ?_
      refine hK.out _ _ ?_ (fun hS' => ?_)
      · exact ⟨(hS.1).later ((Below.refl wx.heap.size wx).alloc (Nat.le_refl _) (.cells zeroD.cells 35)), (hS.2.1).later ((Below.refl wx.heap.size wx).alloc (Nat.le_refl _) (.cells zeroD.cells 35)), (hS.2.2.1).later ((Below.refl wx.heap.size wx).alloc (Nat.le_refl _) (.cells zeroD.cells 35)), (hS.2.2.2).trans (((Below.refl wx.heap.size wx).alloc (Nat.le_refl _) (.cells zeroD.cells 35)).mono (hS.2.2.2).size)⟩
      · exact st3_6 _ wx.heap.size b2 D0 D1 D2 hS' (EBox.new wx zeroD) (x2.later ((Below.refl wx.heap.size wx).alloc (Nat.le_refl _) (.cells zeroD.cells 35))) (Ne.symm (ebox_ne x2)) (hS.2.2.2).size r2 (l0.later ((Below.refl wx.heap.size wx).alloc (Nat.le_refl _) (.cells zeroD.cells 35))) (l1.later ((Below.refl wx.heap.size wx).alloc (Nat.le_refl _) (.cells zeroD.cells 35))) (l2.later ((Below.refl wx.heap.size wx).alloc (Nat.le_refl _) (.cells zeroD.cells 35))) q0 q1 q2
    exact AllReadyH.nil
  have st3_0 : ∀ (wx : World) (D0 D1 D2 : EntD), (fun wx => EBox wx g0 e0 ∧ EBox wx g1 e1 ∧ EBox wx g2 e2 ∧ Below X.heap.size X wx) wx → LaidE wx X.heap.size D0 → LaidE wx X.heap.size D1 → LaidE wx X.heap.size D2 → EntD.Same D0 e0.cut → EntD.Same D1 e1.cut → EntD.Same D2 e2.cut → wpAnyH Try.prog .any order3Ops (NoPanic Q) (fun wx => EBox wx g0 e0 ∧ EBox wx g1 e1 ∧ EBox wx g2 e2 ∧ Below X.heap.size X wx) 6 #[true, true, true, true, true, true, false, false, false, false, false, false] (order3Act s0 s1 s2 (.pointer (some ⟨g0, 0, none⟩)) (.pointer (some ⟨g1, 0, none⟩)) (.pointer (some ⟨g2, 0, none⟩)) s6 s13 s14 undef undef undef (.agg e0.cells) (.agg D0.cells) (.agg e1.cells) (.agg D1.cells) (.agg e2.cells) (.agg D2.cells)) wx := by
    intro wx D0 D1 D2 hS l0 l1 l2 q0 q1 q2
    refine wpAnyH_ready (rs := [6, 7, 8]) (by kernel_rfl) (by simp) ?_
    refine AllReadyH.cons (o := { dst := some 7, op := Op.alloc 35, type := 0, pos := "law.go:177", after := #[], guard := none }) rfl (fun K hK => ?_) ?_
    · rw [if_pos (by rfl)]
      refine wp_alloc_entry ?_
      refine hK.out _ _ ?_ (fun hS' => ?_)
      · exact ⟨(hS.1).later ((Below.refl wx.heap.size wx).alloc (Nat.le_refl _) (.cells zeroD.cells 35)), (hS.2.1).later ((Below.refl wx.heap.size wx).alloc (Nat.le_refl _) (.cells zeroD.cells 35)), (hS.2.2.1).later ((Below.refl wx.heap.size wx).alloc (Nat.le_refl _) (.cells zeroD.cells 35)), (hS.2.2.2).trans (((Below.refl wx.heap.size wx).alloc (Nat.le_refl _) (.cells zeroD.cells 35)).mono (hS.2.2.2).size)⟩
      · exact st3_1 _ wx.heap.size D0 D1 D2 hS' (EBox.new wx zeroD) (hS.2.2.2).size (l0.later ((Below.refl wx.heap.size wx).alloc (Nat.le_refl _) (.cells zeroD.cells 35))) (l1.later ((Below.refl wx.heap.size wx).alloc (Nat.le_refl _) (.cells zeroD.cells 35))) (l2.later ((Below.refl wx.heap.size wx).alloc (Nat.le_refl _) (.cells zeroD.cells 35))) q0 q1 q2
    refine AllReadyH.cons (o := { dst := some 8, op := Op.alloc 35, type := 0, pos := "law.go:177", after := #[], guard := none }) rfl (fun K hK => ?_) ?_
    · rw [if_pos (by rfl)]
      refine wp_alloc_entry ?_
      refine hK.out _ _ ?_ (fun hS' => ?_)
      · exact ⟨(hS.1).later ((Below.refl wx.heap.size wx).alloc (Nat.le_refl _) (.cells zeroD.cells 35)), (hS.2.1).later ((Below.refl wx.heap.size wx).alloc (Nat.le_refl _) (.cells zeroD.cells 35)), (hS.2.2.1).later ((Below.refl wx.heap.size wx).alloc (Nat.le_refl _) (.cells zeroD.cells 35)), (hS.2.2.2).trans (((Below.refl wx.heap.size wx).alloc (Nat.le_refl _) (.cells zeroD.cells 35)).mono (hS.2.2.2).size)⟩
      · exact st3_2 _ wx.heap.size D0 D1 D2 hS' (EBox.new wx zeroD) (hS.2.2.2).size (l0.later ((Below.refl wx.heap.size wx).alloc (Nat.le_refl _) (.cells zeroD.cells 35))) (l1.later ((Below.refl wx.heap.size wx).alloc (Nat.le_refl _) (.cells zeroD.cells 35))) (l2.later ((Below.refl wx.heap.size wx).alloc (Nat.le_refl _) (.cells zeroD.cells 35))) q0 q1 q2
    refine AllReadyH.cons (o := { dst := some 9, op := Op.alloc 35, type := 0, pos := "law.go:177", after := #[], guard := none }) rfl (fun K hK => ?_) ?_
    · rw [if_pos (by rfl)]
      refine wp_alloc_entry ?_
      refine hK.out _ _ ?_ (fun hS' => ?_)
      · exact ⟨(hS.1).later ((Below.refl wx.heap.size wx).alloc (Nat.le_refl _) (.cells zeroD.cells 35)), (hS.2.1).later ((Below.refl wx.heap.size wx).alloc (Nat.le_refl _) (.cells zeroD.cells 35)), (hS.2.2.1).later ((Below.refl wx.heap.size wx).alloc (Nat.le_refl _) (.cells zeroD.cells 35)), (hS.2.2.2).trans (((Below.refl wx.heap.size wx).alloc (Nat.le_refl _) (.cells zeroD.cells 35)).mono (hS.2.2.2).size)⟩
      · exact st3_4 _ wx.heap.size D0 D1 D2 hS' (EBox.new wx zeroD) (hS.2.2.2).size (l0.later ((Below.refl wx.heap.size wx).alloc (Nat.le_refl _) (.cells zeroD.cells 35))) (l1.later ((Below.refl wx.heap.size wx).alloc (Nat.le_refl _) (.cells zeroD.cells 35))) (l2.later ((Below.refl wx.heap.size wx).alloc (Nat.le_refl _) (.cells zeroD.cells 35))) q0 q1 q2
    exact AllReadyH.nil
  have st2_7 : ∀ (wx : World) (b0 b1 b2 : Nat) (D0 D1 : EntD), (fun wx => EBox wx g0 e0 ∧ EBox wx g1 e1 ∧ EBox wx g2 e2 ∧ Below X.heap.size X wx) wx → EBox wx b0 zeroD → EBox wx b1 zeroD → EBox wx b2 zeroD → b0 ≠ b1 → b0 ≠ b2 → b1 ≠ b2 → X.heap.size ≤ b0 → X.heap.size ≤ b1 → X.heap.size ≤ b2 → LaidE wx X.heap.size D0 → LaidE wx X.heap.size D1 → EntD.Same D0 e0.cut → EntD.Same D1 e1.cut → wpAnyH Try.prog .any order3Ops (NoPanic Q) (fun wx => EBox wx g0 e0 ∧ EBox wx g1 e1 ∧ EBox wx g2 e2 ∧ Below X.heap.size X wx) 4 #[true, true, true, true, true, false, true, true, true, false, false, false] (order3Act s0 s1 s2 (.pointer (some ⟨g0, 0, none⟩)) (.pointer (some ⟨g1, 0, none⟩)) (.pointer (some ⟨g2, 0, none⟩)) s6 s13 s14 (.pointer (some ⟨b0, 0, none⟩)) (.pointer (some ⟨b1, 0, none⟩)) (.pointer (some ⟨b2, 0, none⟩)) (.agg e0.cells) (.agg D0.cells) (.agg e1.cells) (.agg D1.cells) (.agg e2.cells) undef) wx := by
    intro wx b0 b1 b2 D0 D1 hS x0 x1 x2 n01 n02 n12 r0 r1 r2 l0 l1 q0 q1
    refine wpAnyH_ready (rs := [5]) (by kernel_rfl) (by simp) ?_
    refine AllReadyH.cons (o := { dst := some 20, op := Op.call { callee := Callee.value (Operand.func 19), args := #[Operand.tmp 19], argTypes := #[35] }, type := 35, pos := "law.go:177", after := #[{ on := 4, ground := Ground.data }, { on := 3, ground := Ground.chain }], guard := none }) rfl (fun K hK => ?_) ?_
    · rw [if_pos (by rfl)]
      refine wp_call_entry (entry_any ((HK.out.2.2.1).later (hS.2.2.2))) rfl ?_
      rintro r w' ⟨D2, rfl, qN, lN, hb⟩
      refine ⟨_, rfl, hK.out _ _ ?_ (fun hS' => ?_)⟩
      · exact ⟨(hS.1).later (hb), (hS.2.1).later (hb), (hS.2.2.1).later (hb), (hS.2.2.2).trans ((hb).mono (hS.2.2.2).size)⟩
      · exact st3_7 w' b0 b1 b2 D0 D1 D2 hS' (x0.later (hb)) (x1.later (hb)) (x2.later (hb)) n01 n02 n12 r0 r1 r2 (l0.later (hb)) (l1.later (hb)) (lN.mono (hS.2.2.2).size) q0 q1 qN
    exact AllReadyH.nil
  have st2_3 : ∀ (wx : World) (b0 b1 : Nat) (D0 D1 : EntD), (fun wx => EBox wx g0 e0 ∧ EBox wx g1 e1 ∧ EBox wx g2 e2 ∧ Below X.heap.size X wx) wx → EBox wx b0 zeroD → EBox wx b1 zeroD → b0 ≠ b1 → X.heap.size ≤ b0 → X.heap.size ≤ b1 → LaidE wx X.heap.size D0 → LaidE wx X.heap.size D1 → EntD.Same D0 e0.cut → EntD.Same D1 e1.cut → wpAnyH Try.prog .any order3Ops (NoPanic Q) (fun wx => EBox wx g0 e0 ∧ EBox wx g1 e1 ∧ EBox wx g2 e2 ∧ Below X.heap.size X wx) 5 #[true, true, true, true, true, false, true, true, false, false, false, false] (order3Act s0 s1 s2 (.pointer (some ⟨g0, 0, none⟩)) (.pointer (some ⟨g1, 0, none⟩)) (.pointer (some ⟨g2, 0, none⟩)) s6 s13 s14 (.pointer (some ⟨b0, 0, none⟩)) (.pointer (some ⟨b1, 0, none⟩)) undef (.agg e0.cells) (.agg D0.cells) (.agg e1.cells) (.agg D1.cells) (.agg e2.cells) undef) wx := by
    intro wx b0 b1 D0 D1 hS x0 x1 n01 r0 r1 l0 l1 q0 q1
    refine wpAnyH_ready (rs := [5, 8]) (by kernel_rfl) (by simp) ?_
    refine AllReadyH.cons (o := { dst := some 20, op := Op.call { callee := Callee.value (Operand.func 19), args := #[Operand.tmp 19], argTypes := #[35] }, type := 35, pos := "law.go:177", after := #[{ on := 4, ground := Ground.data }, { on := 3, ground := Ground.chain }], guard := none }) rfl (fun K hK => ?_) ?_
    · rw [if_pos (by rfl)]
      refine wp_call_entry (entry_any ((HK.out.2.2.1).later (hS.2.2.2))) rfl ?_
      rintro r w' ⟨D2, rfl, qN, lN, hb⟩
      refine ⟨_, rfl, hK.out _ _ ?_ (fun hS' => ?_)⟩
      · exact ⟨(hS.1).later (hb), (hS.2.1).later (hb), (hS.2.2.1).later (hb), (hS.2.2.2).trans ((hb).mono (hS.2.2.2).size)⟩
      · exact st3_3 w' b0 b1 D0 D1 D2 hS' (x0.later (hb)) (x1.later (hb)) n01 r0 r1 (l0.later (hb)) (l1.later (hb)) (lN.mono (hS.2.2.2).size) q0 q1 qN
    refine AllReadyH.cons (o := { dst := some 9, op := Op.alloc 35, type := 0, pos := "law.go:177", after := #[], guard := none }) rfl (fun K hK => ?_) ?_
    · rw [if_pos (by rfl)]
      refine wp_alloc_entry ?_
      refine hK.out _ _ ?_ (fun hS' => ?_)
      · exact ⟨(hS.1).later ((Below.refl wx.heap.size wx).alloc (Nat.le_refl _) (.cells zeroD.cells 35)), (hS.2.1).later ((Below.refl wx.heap.size wx).alloc (Nat.le_refl _) (.cells zeroD.cells 35)), (hS.2.2.1).later ((Below.refl wx.heap.size wx).alloc (Nat.le_refl _) (.cells zeroD.cells 35)), (hS.2.2.2).trans (((Below.refl wx.heap.size wx).alloc (Nat.le_refl _) (.cells zeroD.cells 35)).mono (hS.2.2.2).size)⟩
      · exact st2_7 _ b0 b1 wx.heap.size D0 D1 hS' (x0.later ((Below.refl wx.heap.size wx).alloc (Nat.le_refl _) (.cells zeroD.cells 35))) (x1.later ((Below.refl wx.heap.size wx).alloc (Nat.le_refl _) (.cells zeroD.cells 35))) (EBox.new wx zeroD) n01 (ebox_ne x0) (ebox_ne x1) r0 r1 (hS.2.2.2).size (l0.later ((Below.refl wx.heap.size wx).alloc (Nat.le_refl _) (.cells zeroD.cells 35))) (l1.later ((Below.refl wx.heap.size wx).alloc (Nat.le_refl _) (.cells zeroD.cells 35))) q0 q1
    exact AllReadyH.nil
  have st2_5 : ∀ (wx : World) (b0 b2 : Nat) (D0 D1 : EntD), (fun wx => EBox wx g0 e0 ∧ EBox wx g1 e1 ∧ EBox wx g2 e2 ∧ Below X.heap.size X wx) wx → EBox wx b0 zeroD → EBox wx b2 zeroD → b0 ≠ b2 → X.heap.size ≤ b0 → X.heap.size ≤ b2 → LaidE wx X.heap.size D0 → LaidE wx X.heap.size D1 → EntD.Same D0 e0.cut → EntD.Same D1 e1.cut → wpAnyH Try.prog .any order3Ops (NoPanic Q) (fun wx => EBox wx g0 e0 ∧ EBox wx g1 e1 ∧ EBox wx g2 e2 ∧ Below X.heap.size X wx) 5 #[true, true, true, true, true, false, true, false, true, false, false, false] (order3Act s0 s1 s2 (.pointer (some ⟨g0, 0, none⟩)) (.pointer (some ⟨g1, 0, none⟩)) (.pointer (some ⟨g2, 0, none⟩)) s6 s13 s14 (.pointer (some ⟨b0, 0, none⟩)) undef (.pointer (some ⟨b2, 0, none⟩)) (.agg e0.cells) (.agg D0.cells) (.agg e1.cells) (.agg D1.cells) (.agg e2.cells) undef) wx := by
    intro wx b0 b2 D0 D1 hS x0 x2 n02 r0 r2 l0 l1 q0 q1
    refine wpAnyH_ready (rs := [5, 7]) (by kernel_rfl) (by simp) ?_
    refine AllReadyH.cons (o := { dst := some 20, op := Op.call { callee := Callee.value (Operand.func 19), args := #[Operand.tmp 19], argTypes := #[35] }, type := 35, pos := "law.go:177", after := #[{ on := 4, ground := Ground.data }, { on := 3, ground := Ground.chain }], guard := none }) rfl (fun K hK => ?_) ?_
    · rw [if_pos (by rfl)]
      refine wp_call_entry (entry_any ((HK.out.2.2.1).later (hS.2.2.2))) rfl ?_
      rintro r w' ⟨D2, rfl, qN, lN, hb⟩
      refine ⟨_, rfl, hK.out _ _ ?_ (fun hS' => ?_)⟩
      · exact ⟨(hS.1).later (hb), (hS.2.1).later (hb), (hS.2.2.1).later (hb), (hS.2.2.2).trans ((hb).mono (hS.2.2.2).size)⟩
      · exact st3_5 w' b0 b2 D0 D1 D2 hS' (x0.later (hb)) (x2.later (hb)) n02 r0 r2 (l0.later (hb)) (l1.later (hb)) (lN.mono (hS.2.2.2).size) q0 q1 qN
    refine AllReadyH.cons (o := { dst := some 8, op := Op.alloc 35, type := 0, pos := "law.go:177", after := #[], guard := none }) rfl (fun K hK => ?_) ?_
    · rw [if_pos (by rfl)]
      refine wp_alloc_entry ?_
      refine hK.out _ _ ?_ (fun hS' => ?_)
      · exact ⟨(hS.1).later ((Below.refl wx.heap.size wx).alloc (Nat.le_refl _) (.cells zeroD.cells 35)), (hS.2.1).later ((Below.refl wx.heap.size wx).alloc (Nat.le_refl _) (.cells zeroD.cells 35)), (hS.2.2.1).later ((Below.refl wx.heap.size wx).alloc (Nat.le_refl _) (.cells zeroD.cells 35)), (hS.2.2.2).trans (((Below.refl wx.heap.size wx).alloc (Nat.le_refl _) (.cells zeroD.cells 35)).mono (hS.2.2.2).size)⟩
      · exact st2_7 _ b0 wx.heap.size b2 D0 D1 hS' (x0.later ((Below.refl wx.heap.size wx).alloc (Nat.le_refl _) (.cells zeroD.cells 35))) (EBox.new wx zeroD) (x2.later ((Below.refl wx.heap.size wx).alloc (Nat.le_refl _) (.cells zeroD.cells 35))) (ebox_ne x0) n02 (Ne.symm (ebox_ne x2)) r0 (hS.2.2.2).size r2 (l0.later ((Below.refl wx.heap.size wx).alloc (Nat.le_refl _) (.cells zeroD.cells 35))) (l1.later ((Below.refl wx.heap.size wx).alloc (Nat.le_refl _) (.cells zeroD.cells 35))) q0 q1
    exact AllReadyH.nil
  have st2_6 : ∀ (wx : World) (b1 b2 : Nat) (D0 D1 : EntD), (fun wx => EBox wx g0 e0 ∧ EBox wx g1 e1 ∧ EBox wx g2 e2 ∧ Below X.heap.size X wx) wx → EBox wx b1 zeroD → EBox wx b2 zeroD → b1 ≠ b2 → X.heap.size ≤ b1 → X.heap.size ≤ b2 → LaidE wx X.heap.size D0 → LaidE wx X.heap.size D1 → EntD.Same D0 e0.cut → EntD.Same D1 e1.cut → wpAnyH Try.prog .any order3Ops (NoPanic Q) (fun wx => EBox wx g0 e0 ∧ EBox wx g1 e1 ∧ EBox wx g2 e2 ∧ Below X.heap.size X wx) 5 #[true, true, true, true, true, false, false, true, true, false, false, false] (order3Act s0 s1 s2 (.pointer (some ⟨g0, 0, none⟩)) (.pointer (some ⟨g1, 0, none⟩)) (.pointer (some ⟨g2, 0, none⟩)) s6 s13 s14 undef (.pointer (some ⟨b1, 0, none⟩)) (.pointer (some ⟨b2, 0, none⟩)) (.agg e0.cells) (.agg D0.cells) (.agg e1.cells) (.agg D1.cells) (.agg e2.cells) undef) wx := by
    intro wx b1 b2 D0 D1 hS x1 x2 n12 r1 r2 l0 l1 q0 q1
    refine wpAnyH_ready (rs := [5, 6]) (by kernel_rfl) (by simp) ?_
    refine AllReadyH.cons (o := { dst := some 20, op := Op.call { callee := Callee.value (Operand.func 19), args := #[Operand.tmp 19], argTypes := #[35] }, type := 35, pos := "law.go:177", after := #[{ on := 4, ground := Ground.data }, { on := 3, ground := Ground.chain }], guard := none }) rfl (fun K hK => ?_) ?_
    · rw [if_pos (by rfl)]
      refine wp_call_entry (entry_any ((HK.out.2.2.1).later (hS.2.2.2))) rfl ?_
      rintro r w' ⟨D2, rfl, qN, lN, hb⟩
      refine ⟨_, rfl, hK.out _ _ ?_ (fun hS' => ?_)⟩
      · exact ⟨(hS.1).later (hb), (hS.2.1).later (hb), (hS.2.2.1).later (hb), (hS.2.2.2).trans ((hb).mono (hS.2.2.2).size)⟩
      · exact st3_6 w' b1 b2 D0 D1 D2 hS' (x1.later (hb)) (x2.later (hb)) n12 r1 r2 (l0.later (hb)) (l1.later (hb)) (lN.mono (hS.2.2.2).size) q0 q1 qN
    refine AllReadyH.cons (o := { dst := some 7, op := Op.alloc 35, type := 0, pos := "law.go:177", after := #[], guard := none }) rfl (fun K hK => ?_) ?_
    · rw [if_pos (by rfl)]
      refine wp_alloc_entry ?_
      refine hK.out _ _ ?_ (fun hS' => ?_)
      · exact ⟨(hS.1).later ((Below.refl wx.heap.size wx).alloc (Nat.le_refl _) (.cells zeroD.cells 35)), (hS.2.1).later ((Below.refl wx.heap.size wx).alloc (Nat.le_refl _) (.cells zeroD.cells 35)), (hS.2.2.1).later ((Below.refl wx.heap.size wx).alloc (Nat.le_refl _) (.cells zeroD.cells 35)), (hS.2.2.2).trans (((Below.refl wx.heap.size wx).alloc (Nat.le_refl _) (.cells zeroD.cells 35)).mono (hS.2.2.2).size)⟩
      · exact st2_7 _ wx.heap.size b1 b2 D0 D1 hS' (EBox.new wx zeroD) (x1.later ((Below.refl wx.heap.size wx).alloc (Nat.le_refl _) (.cells zeroD.cells 35))) (x2.later ((Below.refl wx.heap.size wx).alloc (Nat.le_refl _) (.cells zeroD.cells 35))) (Ne.symm (ebox_ne x1)) (Ne.symm (ebox_ne x2)) n12 (hS.2.2.2).size r1 r2 (l0.later ((Below.refl wx.heap.size wx).alloc (Nat.le_refl _) (.cells zeroD.cells 35))) (l1.later ((Below.refl wx.heap.size wx).alloc (Nat.le_refl _) (.cells zeroD.cells 35))) q0 q1
    exact AllReadyH.nil
  have st2_1 : ∀ (wx : World) (b0 : Nat) (D0 D1 : EntD), (fun wx => EBox wx g0 e0 ∧ EBox wx g1 e1 ∧ EBox wx g2 e2 ∧ Below X.heap.size X wx) wx → EBox wx b0 zeroD → X.heap.size ≤ b0 → LaidE wx X.heap.size D0 → LaidE wx X.heap.size D1 → EntD.Same D0 e0.cut → EntD.Same D1 e1.cut → wpAnyH Try.prog .any order3Ops (NoPanic Q) (fun wx => EBox wx g0 e0 ∧ EBox wx g1 e1 ∧ EBox wx g2 e2 ∧ Below X.heap.size X wx) 6 #[true, true, true, true, true, false, true, false, false, false, false, false] (order3Act s0 s1 s2 (.pointer (some ⟨g0, 0, none⟩)) (.pointer (some ⟨g1, 0, none⟩)) (.pointer (some ⟨g2, 0, none⟩)) s6 s13 s14 (.pointer (some ⟨b0, 0, none⟩)) undef undef (.agg e0.cells) (.agg D0.cells) (.agg e1.cells) (.agg D1.cells) (.agg e2.cells) undef) wx := by
    intro wx b0 D0 D1 hS x0 r0 l0 l1 q0 q1
    refine wpAnyH_ready (rs := [5, 7, 8]) (by kernel_rfl) (by simp) ?_
    refine AllReadyH.cons (o := { dst := some 20, op := Op.call { callee := Callee.value (Operand.func 19), args := #[Operand.tmp 19], argTypes := #[35] }, type := 35, pos := "law.go:177", after := #[{ on := 4, ground := Ground.data }, { on := 3, ground := Ground.chain }], guard := none }) rfl (fun K hK => ?_) ?_
    · rw [if_pos (by rfl)]
      refine wp_call_entry (entry_any ((HK.out.2.2.1).later (hS.2.2.2))) rfl ?_
      rintro r w' ⟨D2, rfl, qN, lN, hb⟩
      refine ⟨_, rfl, hK.out _ _ ?_ (fun hS' => ?_)⟩
      · exact ⟨(hS.1).later (hb), (hS.2.1).later (hb), (hS.2.2.1).later (hb), (hS.2.2.2).trans ((hb).mono (hS.2.2.2).size)⟩
      · exact st3_1 w' b0 D0 D1 D2 hS' (x0.later (hb)) r0 (l0.later (hb)) (l1.later (hb)) (lN.mono (hS.2.2.2).size) q0 q1 qN
    refine AllReadyH.cons (o := { dst := some 8, op := Op.alloc 35, type := 0, pos := "law.go:177", after := #[], guard := none }) rfl (fun K hK => ?_) ?_
    · rw [if_pos (by rfl)]
      refine wp_alloc_entry ?_
      refine hK.out _ _ ?_ (fun hS' => ?_)
      · exact ⟨(hS.1).later ((Below.refl wx.heap.size wx).alloc (Nat.le_refl _) (.cells zeroD.cells 35)), (hS.2.1).later ((Below.refl wx.heap.size wx).alloc (Nat.le_refl _) (.cells zeroD.cells 35)), (hS.2.2.1).later ((Below.refl wx.heap.size wx).alloc (Nat.le_refl _) (.cells zeroD.cells 35)), (hS.2.2.2).trans (((Below.refl wx.heap.size wx).alloc (Nat.le_refl _) (.cells zeroD.cells 35)).mono (hS.2.2.2).size)⟩
      · exact st2_3 _ b0 wx.heap.size D0 D1 hS' (x0.later ((Below.refl wx.heap.size wx).alloc (Nat.le_refl _) (.cells zeroD.cells 35))) (EBox.new wx zeroD) (ebox_ne x0) r0 (hS.2.2.2).size (l0.later ((Below.refl wx.heap.size wx).alloc (Nat.le_refl _) (.cells zeroD.cells 35))) (l1.later ((Below.refl wx.heap.size wx).alloc (Nat.le_refl _) (.cells zeroD.cells 35))) q0 q1
    refine AllReadyH.cons (o := { dst := some 9, op := Op.alloc 35, type := 0, pos := "law.go:177", after := #[], guard := none }) rfl (fun K hK => ?_) ?_
    · rw [if_pos (by rfl)]
      refine wp_alloc_entry ?_
      refine hK.out _ _ ?_ (fun hS' => ?_)
      · exact ⟨(hS.1).later ((Below.refl wx.heap.size wx).alloc (Nat.le_refl _) (.cells zeroD.cells 35)), (hS.2.1).later ((Below.refl wx.heap.size wx).alloc (Nat.le_refl _) (.cells zeroD.cells 35)), (hS.2.2.1).later ((Below.refl wx.heap.size wx).alloc (Nat.le_refl _) (.cells zeroD.cells 35)), (hS.2.2.2).trans (((Below.refl wx.heap.size wx).alloc (Nat.le_refl _) (.cells zeroD.cells 35)).mono (hS.2.2.2).size)⟩
      · exact st2_5 _ b0 wx.heap.size D0 D1 hS' (x0.later ((Below.refl wx.heap.size wx).alloc (Nat.le_refl _) (.cells zeroD.cells 35))) (EBox.new wx zeroD) (ebox_ne x0) r0 (hS.2.2.2).size (l0.later ((Below.refl wx.heap.size wx).alloc (Nat.le_refl _) (.cells zeroD.cells 35))) (l1.later ((Below.refl wx.heap.size wx).alloc (Nat.le_refl _) (.cells zeroD.cells 35))) q0 q1
    exact AllReadyH.nil
  have st2_2 : ∀ (wx : World) (b1 : Nat) (D0 D1 : EntD), (fun wx => EBox wx g0 e0 ∧ EBox wx g1 e1 ∧ EBox wx g2 e2 ∧ Below X.heap.size X wx) wx → EBox wx b1 zeroD → X.heap.size ≤ b1 → LaidE wx X.heap.size D0 → LaidE wx X.heap.size D1 → EntD.Same D0 e0.cut → EntD.Same D1 e1.cut → wpAnyH Try.prog .any order3Ops (NoPanic Q) (fun wx => EBox wx g0 e0 ∧ EBox wx g1 e1 ∧ EBox wx g2 e2 ∧ Below X.heap.size X wx) 6 #[true, true, true, true, true, false, false, true, false, false, false, false] (order3Act s0 s1 s2 (.pointer (some ⟨g0, 0, none⟩)) (.pointer (some ⟨g1, 0, none⟩)) (.pointer (some ⟨g2, 0, none⟩)) s6 s13 s14 undef (.pointer (some ⟨b1, 0, none⟩)) undef (.agg e0.cells) (.agg D0.cells) (.agg e1.cells) (.agg D1.cells) (.agg e2.cells) undef) wx := by
    intro wx b1 D0 D1 hS x1 r1 l0 l1 q0 q1
    refine wpAnyH_ready (rs := [5, 6, 8]) (by kernel_rfl) (by simp) ?_
    refine AllReadyH.cons (o := { dst := some 20, op := Op.call { callee := Callee.value (Operand.func 19), args := #[Operand.tmp 19], argTypes := #[35] }, type := 35, pos := "law.go:177", after := #[{ on := 4, ground := Ground.data }, { on := 3, ground := Ground.chain }], guard := none }) rfl (fun K hK => ?_) ?_
    · rw [if_pos (by rfl)]
      refine wp_call_entry (entry_any ((HK.out.2.2.1).later (hS.2.2.2))) rfl ?_
      rintro r w' ⟨D2, rfl, qN, lN, hb⟩
      refine ⟨_, rfl, hK.out _ _ ?_ (fun hS' => ?_)⟩
      · exact ⟨(hS.1).later (hb), (hS.2.1).later (hb), (hS.2.2.1).later (hb), (hS.2.2.2).trans ((hb).mono (hS.2.2.2).size)⟩
      · exact st3_2 w' b1 D0 D1 D2 hS' (x1.later (hb)) r1 (l0.later (hb)) (l1.later (hb)) (lN.mono (hS.2.2.2).size) q0 q1 qN
    refine AllReadyH.cons (o := { dst := some 7, op := Op.alloc 35, type := 0, pos := "law.go:177", after := #[], guard := none }) rfl (fun K hK => ?_) ?_
    · rw [if_pos (by rfl)]
      refine wp_alloc_entry ?_
      refine hK.out _ _ ?_ (fun hS' => ?_)
      · exact ⟨(hS.1).later ((Below.refl wx.heap.size wx).alloc (Nat.le_refl _) (.cells zeroD.cells 35)), (hS.2.1).later ((Below.refl wx.heap.size wx).alloc (Nat.le_refl _) (.cells zeroD.cells 35)), (hS.2.2.1).later ((Below.refl wx.heap.size wx).alloc (Nat.le_refl _) (.cells zeroD.cells 35)), (hS.2.2.2).trans (((Below.refl wx.heap.size wx).alloc (Nat.le_refl _) (.cells zeroD.cells 35)).mono (hS.2.2.2).size)⟩
      · exact st2_3 _ wx.heap.size b1 D0 D1 hS' (EBox.new wx zeroD) (x1.later ((Below.refl wx.heap.size wx).alloc (Nat.le_refl _) (.cells zeroD.cells 35))) (Ne.symm (ebox_ne x1)) (hS.2.2.2).size r1 (l0.later ((Below.refl wx.heap.size wx).alloc (Nat.le_refl _) (.cells zeroD.cells 35))) (l1.later ((Below.refl wx.heap.size wx).alloc (Nat.le_refl _) (.cells zeroD.cells 35))) q0 q1
    refine AllReadyH.cons (o := { dst := some 9, op := Op.alloc 35, type := 0, pos := "law.go:177", after := #[], guard := none }) rfl (fun K hK => ?_) ?_
    · rw [if_pos (by rfl)]
      refine wp_alloc_entry ?_
      refine hK.out _ _ ?_ (fun hS' => ?_)
      · exact ⟨(hS.1).later ((Below.refl wx.heap.size wx).alloc (Nat.le_refl _) (.cells zeroD.cells 35)), (hS.2.1).later ((Below.refl wx.heap.size wx).alloc (Nat.le_refl _) (.cells zeroD.cells 35)), (hS.2.2.1).later ((Below.refl wx.heap.size wx).alloc (Nat.le_refl _) (.cells zeroD.cells 35)), (hS.2.2.2).trans (((Below.refl wx.heap.size wx).alloc (Nat.le_refl _) (.cells zeroD.cells 35)).mono (hS.2.2.2).size)⟩
      · exact st2_6 _ b1 wx.heap.size D0 D1 hS' (x1.later ((Below.refl wx.heap.size wx).alloc (Nat.le_refl _) (.cells zeroD.cells 35))) (EBox.new wx zeroD) (ebox_ne x1) r1 (hS.2.2.2).size (l0.later ((Below.refl wx.heap.size wx).alloc (Nat.le_refl _) (.cells zeroD.cells 35))) (l1.later ((Below.refl wx.heap.size wx).alloc (Nat.le_refl _) (.cells zeroD.cells 35))) q0 q1
    exact AllReadyH.nil
  have st2_4 : ∀ (wx : World) (b2 : Nat) (D0 D1 : EntD), (fun wx => EBox wx g0 e0 ∧ EBox wx g1 e1 ∧ EBox wx g2 e2 ∧ Below X.heap.size X wx) wx → EBox wx b2 zeroD → X.heap.size ≤ b2 → LaidE wx X.heap.size D0 → LaidE wx X.heap.size D1 → EntD.Same D0 e0.cut → EntD.Same D1 e1.cut → wpAnyH Try.prog .any order3Ops (NoPanic Q) (fun wx => EBox wx g0 e0 ∧ EBox wx g1 e1 ∧ EBox wx g2 e2 ∧ Below X.heap.size X wx) 6 #[true, true, true, true, true, false, false, false, true, false, false, false] (order3Act s0 s1 s2 (.pointer (some ⟨g0, 0, none⟩)) (.pointer (some ⟨g1, 0, none⟩)) (.pointer (some ⟨g2, 0, none⟩)) s6 s13 s14 undef undef (.pointer (some ⟨b2, 0, none⟩)) (.agg e0.cells) (.agg D0.cells) (.agg e1.cells) (.agg D1.cells) (.agg e2.cells) undef) wx := by
    intro wx b2 D0 D1 hS x2 r2 l0 l1 q0 q1
    refine wpAnyH_ready (rs := [5, 6, 7]) (by kernel_rfl) (by simp) ?_
    refine AllReadyH.cons (o := { dst := some 20, op := Op.call { callee := Callee.value (Operand.func 19), args := #[Operand.tmp 19], argTypes := #[35] }, type := 35, pos := "law.go:177", after := #[{ on := 4, ground := Ground.data }, { on := 3, ground := Ground.chain }], guard := none }) rfl (fun K hK => ?_) ?_
    · rw [if_pos (by rfl)]
      refine wp_call_entry (entry_any ((HK.out.2.2.1).later (hS.2.2.2))) rfl ?_
      rintro r w' ⟨D2, rfl, qN, lN, hb⟩
      refine ⟨_, rfl, hK.out _ _ ?_ (fun hS' => ?_)⟩
      · exact ⟨(hS.1).later (hb), (hS.2.1).later (hb), (hS.2.2.1).later (hb), (hS.2.2.2).trans ((hb).mono (hS.2.2.2).size)⟩
      · exact st3_4 w' b2 D0 D1 D2 hS' (x2.later (hb)) r2 (l0.later (hb)) (l1.later (hb)) (lN.mono (hS.2.2.2).size) q0 q1 qN
    refine AllReadyH.cons (o := { dst := some 7, op := Op.alloc 35, type := 0, pos := "law.go:177", after := #[], guard := none }) rfl (fun K hK => ?_) ?_
    · rw [if_pos (by rfl)]
      refine wp_alloc_entry ?_
      refine hK.out _ _ ?_ (fun hS' => ?_)
      · exact ⟨(hS.1).later ((Below.refl wx.heap.size wx).alloc (Nat.le_refl _) (.cells zeroD.cells 35)), (hS.2.1).later ((Below.refl wx.heap.size wx).alloc (Nat.le_refl _) (.cells zeroD.cells 35)), (hS.2.2.1).later ((Below.refl wx.heap.size wx).alloc (Nat.le_refl _) (.cells zeroD.cells 35)), (hS.2.2.2).trans (((Below.refl wx.heap.size wx).alloc (Nat.le_refl _) (.cells zeroD.cells 35)).mono (hS.2.2.2).size)⟩
      · exact st2_5 _ wx.heap.size b2 D0 D1 hS' (EBox.new wx zeroD) (x2.later ((Below.refl wx.heap.size wx).alloc (Nat.le_refl _) (.cells zeroD.cells 35))) (Ne.symm (ebox_ne x2)) (hS.2.2.2).size r2 (l0.later ((Below.refl wx.heap.size wx).alloc (Nat.le_refl _) (.cells zeroD.cells 35))) (l1.later ((Below.refl wx.heap.size wx).alloc (Nat.le_refl _) (.cells zeroD.cells 35))) q0 q1
    refine AllReadyH.cons (o := { dst := some 8, op := Op.alloc 35, type := 0, pos := "law.go:177", after := #[], guard := none }) rfl (fun K hK => ?_) ?_
    · rw [if_pos (by rfl)]
      refine wp_alloc_entry ?_
      refine hK.out _ _ ?_ (fun hS' => ?_)
      · exact ⟨(hS.1).later ((Below.refl wx.heap.size wx).alloc (Nat.le_refl _) (.cells zeroD.cells 35)), (hS.2.1).later ((Below.refl wx.heap.size wx).alloc (Nat.le_refl _) (.cells zeroD.cells 35)), (hS.2.2.1).later ((Below.refl wx.heap.size wx).alloc (Nat.le_refl _) (.cells zeroD.cells 35)), (hS.2.2.2).trans (((Below.refl wx.heap.size wx).alloc (Nat.le_refl _) (.cells zeroD.cells 35)).mono (hS.2.2.2).size)⟩
      · exact st2_6 _ wx.heap.size b2 D0 D1 hS' (EBox.new wx zeroD) (x2.later ((Below.refl wx.heap.size wx).alloc (Nat.le_refl _) (.cells zeroD.cells 35))) (Ne.symm (ebox_ne x2)) (hS.2.2.2).size r2 (l0.later ((Below.refl wx.heap.size wx).alloc (Nat.le_refl _) (.cells zeroD.cells 35))) (l1.later ((Below.refl wx.heap.size wx).alloc (Nat.le_refl _) (.cells zeroD.cells 35))) q0 q1
    exact AllReadyH.nil
  have st2_0 : ∀ (wx : World) (D0 D1 : EntD), (fun wx => EBox wx g0 e0 ∧ EBox wx g1 e1 ∧ EBox wx g2 e2 ∧ Below X.heap.size X wx) wx → LaidE wx X.heap.size D0 → LaidE wx X.heap.size D1 → EntD.Same D0 e0.cut → EntD.Same D1 e1.cut → wpAnyH Try.prog .any order3Ops (NoPanic Q) (fun wx => EBox wx g0 e0 ∧ EBox wx g1 e1 ∧ EBox wx g2 e2 ∧ Below X.heap.size X wx) 7 #[true, true, true, true, true, false, false, false, false, false, false, false] (order3Act s0 s1 s2 (.pointer (some ⟨g0, 0, none⟩)) (.pointer (some ⟨g1, 0, none⟩)) (.pointer (some ⟨g2, 0, none⟩)) s6 s13 s14 undef undef undef (.agg e0.cells) (.agg D0.cells) (.agg e1.cells) (.agg D1.cells) (.agg e2.cells) undef) wx := by
    intro wx D0 D1 hS l0 l1 q0 q1
    refine wpAnyH_ready (rs := [5, 6, 7, 8]) (by kernel_rfl) (by simp) ?_
    refine AllReadyH.cons (o := { dst := some 20, op := Op.call { callee := Callee.value (Operand.func 19), args := #[Operand.tmp 19], argTypes := #[35] }, type := 35, pos := "law.go:177", after := #[{ on := 4, ground := Ground.data }, { on := 3, ground := Ground.chain }], guard := none }) rfl (fun K hK => ?_) ?_
    · rw [if_pos (by rfl)]
      refine wp_call_entry (entry_any ((HK.out.2.2.1).later (hS.2.2.2))) rfl ?_
      rintro r w' ⟨D2, rfl, qN, lN, hb⟩
      refine ⟨_, rfl, hK.out _ _ ?_ (fun hS' => ?_)⟩
      · exact ⟨(hS.1).later (hb), (hS.2.1).later (hb), (hS.2.2.1).later (hb), (hS.2.2.2).trans ((hb).mono (hS.2.2.2).size)⟩
      · exact st3_0 w' D0 D1 D2 hS' (l0.later (hb)) (l1.later (hb)) (lN.mono (hS.2.2.2).size) q0 q1 qN
    refine AllReadyH.cons (o := { dst := some 7, op := Op.alloc 35, type := 0, pos := "law.go:177", after := #[], guard := none }) rfl (fun K hK => ?_) ?_
    · rw [if_pos (by rfl)]
      refine wp_alloc_entry ?_
      refine hK.out _ _ ?_ (fun hS' => ?_)
      · exact ⟨(hS.1).later ((Below.refl wx.heap.size wx).alloc (Nat.le_refl _) (.cells zeroD.cells 35)), (hS.2.1).later ((Below.refl wx.heap.size wx).alloc (Nat.le_refl _) (.cells zeroD.cells 35)), (hS.2.2.1).later ((Below.refl wx.heap.size wx).alloc (Nat.le_refl _) (.cells zeroD.cells 35)), (hS.2.2.2).trans (((Below.refl wx.heap.size wx).alloc (Nat.le_refl _) (.cells zeroD.cells 35)).mono (hS.2.2.2).size)⟩
      · exact st2_1 _ wx.heap.size D0 D1 hS' (EBox.new wx zeroD) (hS.2.2.2).size (l0.later ((Below.refl wx.heap.size wx).alloc (Nat.le_refl _) (.cells zeroD.cells 35))) (l1.later ((Below.refl wx.heap.size wx).alloc (Nat.le_refl _) (.cells zeroD.cells 35))) q0 q1
    refine AllReadyH.cons (o := { dst := some 8, op := Op.alloc 35, type := 0, pos := "law.go:177", after := #[], guard := none }) rfl (fun K hK => ?_) ?_
    · rw [if_pos (by rfl)]
      refine wp_alloc_entry ?_
      refine hK.out _ _ ?_ (fun hS' => ?_)
      · exact ⟨(hS.1).later ((Below.refl wx.heap.size wx).alloc (Nat.le_refl _) (.cells zeroD.cells 35)), (hS.2.1).later ((Below.refl wx.heap.size wx).alloc (Nat.le_refl _) (.cells zeroD.cells 35)), (hS.2.2.1).later ((Below.refl wx.heap.size wx).alloc (Nat.le_refl _) (.cells zeroD.cells 35)), (hS.2.2.2).trans (((Below.refl wx.heap.size wx).alloc (Nat.le_refl _) (.cells zeroD.cells 35)).mono (hS.2.2.2).size)⟩
      · exact st2_2 _ wx.heap.size D0 D1 hS' (EBox.new wx zeroD) (hS.2.2.2).size (l0.later ((Below.refl wx.heap.size wx).alloc (Nat.le_refl _) (.cells zeroD.cells 35))) (l1.later ((Below.refl wx.heap.size wx).alloc (Nat.le_refl _) (.cells zeroD.cells 35))) q0 q1
    refine AllReadyH.cons (o := { dst := some 9, op := Op.alloc 35, type := 0, pos := "law.go:177", after := #[], guard := none }) rfl (fun K hK => ?_) ?_
    · rw [if_pos (by rfl)]
      refine wp_alloc_entry ?_
      refine hK.out _ _ ?_ (fun hS' => ?_)
      · exact ⟨(hS.1).later ((Below.refl wx.heap.size wx).alloc (Nat.le_refl _) (.cells zeroD.cells 35)), (hS.2.1).later ((Below.refl wx.heap.size wx).alloc (Nat.le_refl _) (.cells zeroD.cells 35)), (hS.2.2.1).later ((Below.refl wx.heap.size wx).alloc (Nat.le_refl _) (.cells zeroD.cells 35)), (hS.2.2.2).trans (((Below.refl wx.heap.size wx).alloc (Nat.le_refl _) (.cells zeroD.cells 35)).mono (hS.2.2.2).size)⟩
      · exact st2_4 _ wx.heap.size D0 D1 hS' (EBox.new wx zeroD) (hS.2.2.2).size (l0.later ((Below.refl wx.heap.size wx).alloc (Nat.le_refl _) (.cells zeroD.cells 35))) (l1.later ((Below.refl wx.heap.size wx).alloc (Nat.le_refl _) (.cells zeroD.cells 35))) q0 q1
    exact AllReadyH.nil
  have st1_7 : ∀ (wx : World) (b0 b1 b2 : Nat) (D0 : EntD), (fun wx => EBox wx g0 e0 ∧ EBox wx g1 e1 ∧ EBox wx g2 e2 ∧ Below X.heap.size X wx) wx → EBox wx b0 zeroD → EBox wx b1 zeroD → EBox wx b2 zeroD → b0 ≠ b1 → b0 ≠ b2 → b1 ≠ b2 → X.heap.size ≤ b0 → X.heap.size ≤ b1 → X.heap.size ≤ b2 → LaidE wx X.heap.size D0 → EntD.Same D0 e0.cut → wpAnyH Try.prog .any order3Ops (NoPanic Q) (fun wx => EBox wx g0 e0 ∧ EBox wx g1 e1 ∧ EBox wx g2 e2 ∧ Below X.heap.size X wx) 5 #[true, true, true, false, true, false, true, true, true, false, false, false] (order3Act s0 s1 s2 (.pointer (some ⟨g0, 0, none⟩)) (.pointer (some ⟨g1, 0, none⟩)) (.pointer (some ⟨g2, 0, none⟩)) s6 s13 s14 (.pointer (some ⟨b0, 0, none⟩)) (.pointer (some ⟨b1, 0, none⟩)) (.pointer (some ⟨b2, 0, none⟩)) (.agg e0.cells) (.agg D0.cells) (.agg e1.cells) undef (.agg e2.cells) undef) wx := by
    intro wx b0 b1 b2 D0 hS x0 x1 x2 n01 n02 n12 r0 r1 r2 l0 q0
    refine wpAnyH_ready (rs := [3]) (by kernel_rfl) (by simp) ?_
    refine AllReadyH.cons (o := { dst := some 18, op := Op.call { callee := Callee.value (Operand.func 19), args := #[Operand.tmp 17], argTypes := #[35] }, type := 35, pos := "law.go:177", after := #[{ on := 2, ground := Ground.data }, { on := 1, ground := Ground.chain }], guard := none }) rfl (fun K hK => ?_) ?_
    · rw [if_pos (by rfl)]
      refine wp_call_entry (entry_any ((HK.out.2.1).later (hS.2.2.2))) rfl ?_
      rintro r w' ⟨D1, rfl, qN, lN, hb⟩
      refine ⟨_, rfl, hK.out _ _ ?_ (fun hS' => ?_)⟩
      · exact ⟨(hS.1).later (hb), (hS.2.1).later (hb), (hS.2.2.1).later (hb), (hS.2.2.2).trans ((hb).mono (hS.2.2.2).size)⟩
      · exact st2_7 w' b0 b1 b2 D0 D1 hS' (x0.later (hb)) (x1.later (hb)) (x2.later (hb)) n01 n02 n12 r0 r1 r2 (l0.later (hb)) (lN.mono (hS.2.2.2).size) q0 qN
    exact AllReadyH.nil
  have st1_3 : ∀ (wx : World) (b0 b1 : Nat) (D0 : EntD), (fun wx => EBox wx g0 e0 ∧ EBox wx g1 e1 ∧ EBox wx g2 e2 ∧ Below X.heap.size X wx) wx → EBox wx b0 zeroD → EBox wx b1 zeroD → b0 ≠ b1 → X.heap.size ≤ b0 → X.heap.size ≤ b1 → LaidE wx X.heap.size D0 → EntD.Same D0 e0.cut → wpAnyH Try.prog .any order3Ops (NoPanic Q) (fun wx => EBox wx g0 e0 ∧ EBox wx g1 e1 ∧ EBox wx g2 e2 ∧ Below X.heap.size X wx) 6 #[true, true, true, false, true, false, true, true, false, false, false, false] (order3Act s0 s1 s2 (.pointer (some ⟨g0, 0, none⟩)) (.pointer (some ⟨g1, 0, none⟩)) (.pointer (some ⟨g2, 0, none⟩)) s6 s13 s14 (.pointer (some ⟨b0, 0, none⟩)) (.pointer (some ⟨b1, 0, none⟩)) undef (.agg e0.cells) (.agg D0.cells) (.agg e1.cells) undef (.agg e2.cells) undef) wx := by
    intro wx b0 b1 D0 hS x0 x1 n01 r0 r1 l0 q0
    refine wpAnyH_ready (rs := [3, 8]) (by kernel_rfl) (by simp) ?_
    refine AllReadyH.cons (o := { dst := some 18, op := Op.call { callee := Callee.value (Operand.func 19), args := #[Operand.tmp 17], argTypes := #[35] }, type := 35, pos := "law.go:177", after := #[{ on := 2, ground := Ground.data }, { on := 1, ground := Ground.chain }], guard := none }) rfl (fun K hK => ?_) ?_
    · rw [if_pos (by rfl)]
      refine wp_call_entry (entry_any ((HK.out.2.1).later (hS.2.2.2))) rfl ?_
      rintro r w' ⟨D1, rfl, qN, lN, hb⟩
      refine ⟨_, rfl, hK.out _ _ ?_ (fun hS' => ?_)⟩
      · exact ⟨(hS.1).later (hb), (hS.2.1).later (hb), (hS.2.2.1).later (hb), (hS.2.2.2).trans ((hb).mono (hS.2.2.2).size)⟩
      · exact st2_3 w' b0 b1 D0 D1 hS' (x0.later (hb)) (x1.later (hb)) n01 r0 r1 (l0.later (hb)) (lN.mono (hS.2.2.2).size) q0 qN
    refine AllReadyH.cons (o := { dst := some 9, op := Op.alloc 35, type := 0, pos := "law.go:177", after := #[], guard := none }) rfl (fun K hK => ?_) ?_
    · rw [if_pos (by rfl)]
      refine wp_alloc_entry ?_
      refine hK.out _ _ ?_ (fun hS' => ?_)
      · exact ⟨(hS.1).later ((Below.refl wx.heap.size wx).alloc (Nat.le_refl _) (.cells zeroD.cells 35)), (hS.2.1).later ((Below.refl wx.heap.size wx).alloc (Nat.le_refl _) (.cells zeroD.cells 35)), (hS.2.2.1).later ((Below.refl wx.heap.size wx).alloc (Nat.le_refl _) (.cells zeroD.cells 35)), (hS.2.2.2).trans (((Below.refl wx.heap.size wx).alloc (Nat.le_refl _) (.cells zeroD.cells 35)).mono (hS.2.2.2).size)⟩
      · exact st1_7 _ b0 b1 wx.heap.size D0 hS' (x0.later ((Below.refl wx.heap.size wx).alloc (Nat.le_refl _) (.cells zeroD.cells 35))) (x1.later ((Below.refl wx.heap.size wx).alloc (Nat.le_refl _) (.cells zeroD.cells 35))) (EBox.new wx zeroD) n01 (ebox_ne x0) (ebox_ne x1) r0 r1 (hS.2.2.2).size (l0.later ((Below.refl wx.heap.size wx).alloc (Nat.le_refl _) (.cells zeroD.cells 35))) q0
    exact AllReadyH.nil
  have st1_5 : ∀ (wx : World) (b0 b2 : Nat) (D0 : EntD), (fun wx => EBox wx g0 e0 ∧ EBox wx g1 e1 ∧ EBox wx g2 e2 ∧ Below X.heap.size X wx) wx → EBox wx b0 zeroD → EBox wx b2 zeroD → b0 ≠ b2 → X.heap.size ≤ b0 → X.heap.size ≤ b2 → LaidE wx X.heap.size D0 → EntD.Same D0 e0.cut → wpAnyH Try.prog .any order3Ops (NoPanic Q) (fun wx => EBox wx g0 e0 ∧ EBox wx g1 e1 ∧ EBox wx g2 e2 ∧ Below X.heap.size X wx) 6 #[true, true, true, false, true, false, true, false, true, false, false, false] (order3Act s0 s1 s2 (.pointer (some ⟨g0, 0, none⟩)) (.pointer (some ⟨g1, 0, none⟩)) (.pointer (some ⟨g2, 0, none⟩)) s6 s13 s14 (.pointer (some ⟨b0, 0, none⟩)) undef (.pointer (some ⟨b2, 0, none⟩)) (.agg e0.cells) (.agg D0.cells) (.agg e1.cells) undef (.agg e2.cells) undef) wx := by
    intro wx b0 b2 D0 hS x0 x2 n02 r0 r2 l0 q0
    refine wpAnyH_ready (rs := [3, 7]) (by kernel_rfl) (by simp) ?_
    refine AllReadyH.cons (o := { dst := some 18, op := Op.call { callee := Callee.value (Operand.func 19), args := #[Operand.tmp 17], argTypes := #[35] }, type := 35, pos := "law.go:177", after := #[{ on := 2, ground := Ground.data }, { on := 1, ground := Ground.chain }], guard := none }) rfl (fun K hK => ?_) ?_
    · rw [if_pos (by rfl)]
      refine wp_call_entry (entry_any ((HK.out.2.1).later (hS.2.2.2))) rfl ?_
      rintro r w' ⟨D1, rfl, qN, lN, hb⟩
      refine ⟨_, rfl, hK.out _ _ ?_ (fun hS' => ?_)⟩
      · exact ⟨(hS.1).later (hb), (hS.2.1).later (hb), (hS.2.2.1).later (hb), (hS.2.2.2).trans ((hb).mono (hS.2.2.2).size)⟩
      · exact st2_5 w' b0 b2 D0 D1 hS' (x0.later (hb)) (x2.later (hb)) n02 r0 r2 (l0.later (hb)) (lN.mono (hS.2.2.2).size) q0 qN
    refine AllReadyH.cons (o := { dst := some 8, op := Op.alloc 35, type := 0, pos := "law.go:177", after := #[], guard := none }) rfl (fun K hK => ?_) ?_
    · rw [if_pos (by rfl)]
      refine wp_alloc_entry ?_
      refine hK.out _ _ ?_ (fun hS' => ?_)
      · exact ⟨(hS.1).later ((Below.refl wx.heap.size wx).alloc (Nat.le_refl _) (.cells zeroD.cells 35)), (hS.2.1).later ((Below.refl wx.heap.size wx).alloc (Nat.le_refl _) (.cells zeroD.cells 35)), (hS.2.2.1).later ((Below.refl wx.heap.size wx).alloc (Nat.le_refl _) (.cells zeroD.cells 35)), (hS.2.2.2).trans (((Below.refl wx.heap.size wx).alloc (Nat.le_refl _) (.cells zeroD.cells 35)).mono (hS.2.2.2).size)⟩
      · exact st1_7 _ b0 wx.heap.size b2 D0 hS' (x0.later ((Below.refl wx.heap.size wx).alloc (Nat.le_refl _) (.cells zeroD.cells 35))) (EBox.new wx zeroD) (x2.later ((Below.refl wx.heap.size wx).alloc (Nat.le_refl _) (.cells zeroD.cells 35))) (ebox_ne x0) n02 (Ne.symm (ebox_ne x2)) r0 (hS.2.2.2).size r2 (l0.later ((Below.refl wx.heap.size wx).alloc (Nat.le_refl _) (.cells zeroD.cells 35))) q0
    exact AllReadyH.nil
  have st1_6 : ∀ (wx : World) (b1 b2 : Nat) (D0 : EntD), (fun wx => EBox wx g0 e0 ∧ EBox wx g1 e1 ∧ EBox wx g2 e2 ∧ Below X.heap.size X wx) wx → EBox wx b1 zeroD → EBox wx b2 zeroD → b1 ≠ b2 → X.heap.size ≤ b1 → X.heap.size ≤ b2 → LaidE wx X.heap.size D0 → EntD.Same D0 e0.cut → wpAnyH Try.prog .any order3Ops (NoPanic Q) (fun wx => EBox wx g0 e0 ∧ EBox wx g1 e1 ∧ EBox wx g2 e2 ∧ Below X.heap.size X wx) 6 #[true, true, true, false, true, false, false, true, true, false, false, false] (order3Act s0 s1 s2 (.pointer (some ⟨g0, 0, none⟩)) (.pointer (some ⟨g1, 0, none⟩)) (.pointer (some ⟨g2, 0, none⟩)) s6 s13 s14 undef (.pointer (some ⟨b1, 0, none⟩)) (.pointer (some ⟨b2, 0, none⟩)) (.agg e0.cells) (.agg D0.cells) (.agg e1.cells) undef (.agg e2.cells) undef) wx := by
    intro wx b1 b2 D0 hS x1 x2 n12 r1 r2 l0 q0
    refine wpAnyH_ready (rs := [3, 6]) (by kernel_rfl) (by simp) ?_
    refine AllReadyH.cons (o := { dst := some 18, op := Op.call { callee := Callee.value (Operand.func 19), args := #[Operand.tmp 17], argTypes := #[35] }, type := 35, pos := "law.go:177", after := #[{ on := 2, ground := Ground.data }, { on := 1, ground := Ground.chain }], guard := none }) rfl (fun K hK => ?_) ?_
    · rw [if_pos (by rfl)]
      refine wp_call_entry (entry_any ((HK.out.2.1).later (hS.2.2.2))) rfl ?_
      rintro r w' ⟨D1, rfl, qN, lN, hb⟩
      refine ⟨_, rfl, hK.out _ _ ?_ (fun hS' => ?_)⟩
      · exact ⟨(hS.1).later (hb), (hS.2.1).later (hb), (hS.2.2.1).later (hb), (hS.2.2.2).trans ((hb).mono (hS.2.2.2).size)⟩
      · exact st2_6 w' b1 b2 D0 D1 hS' (x1.later (hb)) (x2.later (hb)) n12 r1 r2 (l0.later (hb)) (lN.mono (hS.2.2.2).size) q0 qN
    refine AllReadyH.cons (o := { dst := some 7, op := Op.alloc 35, type := 0, pos := "law.go:177", after := #[], guard := none }) rfl (fun K hK => ?_) ?_
    · rw [if_pos (by rfl)]
      refine wp_alloc_entry ?_
      refine hK.out _ _ ?_ (fun hS' => ?_)
      · exact ⟨(hS.1).later ((Below.refl wx.heap.size wx).alloc (Nat.le_refl _) (.cells zeroD.cells 35)), (hS.2.1).later ((Below.refl wx.heap.size wx).alloc (Nat.le_refl _) (.cells zeroD.cells 35)), (hS.2.2.1).later ((Below.refl wx.heap.size wx).alloc (Nat.le_refl _) (.cells zeroD.cells 35)), (hS.2.2.2).trans (((Below.refl wx.heap.size wx).alloc (Nat.le_refl _) (.cells zeroD.cells 35)).mono (hS.2.2.2).size)⟩
      · exact st1_7 _ wx.heap.size b1 b2 D0 hS' (EBox.new wx zeroD) (x1.later ((Below.refl wx.heap.size wx).alloc (Nat.le_refl _) (.cells zeroD.cells 35))) (x2.later ((Below.refl wx.heap.size wx).alloc (Nat.le_refl _) (.cells zeroD.cells 35))) (Ne.symm (ebox_ne x1)) (Ne.symm (ebox_ne x2)) n12 (hS.2.2.2).size r1 r2 (l0.later ((Below.refl wx.heap.size wx).alloc (Nat.le_refl _) (.cells zeroD.cells 35))) q0
    exact AllReadyH.nil
  have st1_1 : ∀ (wx : World) (b0 : Nat) (D0 : EntD), (fun wx => EBox wx g0 e0 ∧ EBox wx g1 e1 ∧ EBox wx g2 e2 ∧ Below X.heap.size X wx) wx → EBox wx b0 zeroD → X.heap.size ≤ b0 → LaidE wx X.heap.size D0 → EntD.Same D0 e0.cut → wpAnyH Try.prog .any order3Ops (NoPanic Q) (fun wx => EBox wx g0 e0 ∧ EBox wx g1 e1 ∧ EBox wx g2 e2 ∧ Below X.heap.size X wx) 7 #[true, true, true, false, true, false, true, false, false, false, false, false] (order3Act s0 s1 s2 (.pointer (some ⟨g0, 0, none⟩)) (.pointer (some ⟨g1, 0, none⟩)) (.pointer (some ⟨g2, 0, none⟩)) s6 s13 s14 (.pointer (some ⟨b0, 0, none⟩)) undef undef (.agg e0.cells) (.agg D0.cells) (.agg e1.cells) undef (.agg e2.cells) undef) wx := by
    intro wx b0 D0 hS x0 r0 l0 q0
    refine wpAnyH_ready (rs := [3, 7, 8]) (by kernel_rfl) (by simp) ?_
    refine AllReadyH.cons (o := { dst := some 18, op := Op.call { callee := Callee.value (Operand.func 19), args := #[Operand.tmp 17], argTypes := #[35] }, type := 35, pos := "law.go:177", after := #[{ on := 2, ground := Ground.data }, { on := 1, ground := Ground.chain }], guard := none }) rfl (fun K hK => ?_) ?_
    · rw [if_pos (by rfl)]
      refine wp_call_entry (entry_any ((HK.out.2.1).later (hS.2.2.2))) rfl ?_
      rintro r w' ⟨D1, rfl, qN, lN, hb⟩
      refine ⟨_, rfl, hK.out _ _ ?_ (fun hS' => ?_)⟩
      · exact ⟨(hS.1).later (hb), (hS.2.1).later (hb), (hS.2.2.1).later (hb), (hS.2.2.2).trans ((hb).mono (hS.2.2.2).size)⟩
      · exact st2_1 w' b0 D0 D1 hS' (x0.later (hb)) r0 (l0.later (hb)) (lN.mono (hS.2.2.2).size) q0 qN
    refine AllReadyH.cons (o := { dst := some 8, op := Op.alloc 35, type := 0, pos := "law.go:177", after := #[], guard := none }) rfl (fun K hK => ?_) ?_
    · rw [if_pos (by rfl)]
      refine wp_alloc_entry ?_
      refine hK.out _ _ ?_ (fun hS' => ?_)
      · exact ⟨(hS.1).later ((Below.refl wx.heap.size wx).alloc (Nat.le_refl _) (.cells zeroD.cells 35)), (hS.2.1).later ((Below.refl wx.heap.size wx).alloc (Nat.le_refl _) (.cells zeroD.cells 35)), (hS.2.2.1).later ((Below.refl wx.heap.size wx).alloc (Nat.le_refl _) (.cells zeroD.cells 35)), (hS.2.2.2).trans (((Below.refl wx.heap.size wx).alloc (Nat.le_refl _) (.cells zeroD.cells 35)).mono (hS.2.2.2).size)⟩
      · exact st1_3 _ b0 wx.heap.size D0 hS' (x0.later ((Below.refl wx.heap.size wx).alloc (Nat.le_refl _) (.cells zeroD.cells 35))) (EBox.new wx zeroD) (ebox_ne x0) r0 (hS.2.2.2).size (l0.later ((Below.refl wx.heap.size wx).alloc (Nat.le_refl _) (.cells zeroD.cells 35))) q0
    refine AllReadyH.cons (o := { dst := some 9, op := Op.alloc 35, type := 0, pos := "law.go:177", after := #[], guard := none }) rfl (fun K hK => ?_) ?_
    · rw [if_pos (by rfl)]
      refine wp_alloc_entry ?_
      refine hK.out _ _ ?_ (fun hS' => ?_)
      · exact ⟨(hS.1).later ((Below.refl wx.heap.size wx).alloc (Nat.le_refl _) (.cells zeroD.cells 35)), (hS.2.1).later ((Below.refl wx.heap.size wx).alloc (Nat.le_refl _) (.cells zeroD.cells 35)), (hS.2.2.1).later ((Below.refl wx.heap.size wx).alloc (Nat.le_refl _) (.cells zeroD.cells 35)), (hS.2.2.2).trans (((Below.refl wx.heap.size wx).alloc (Nat.le_refl _) (.cells zeroD.cells 35)).mono (hS.2.2.2).size)⟩
      · exact st1_5 _ b0 wx.heap.size D0 hS' (x0.later ((Below.refl wx.heap.size wx).alloc (Nat.le_refl _) (.cells zeroD.cells 35))) (EBox.new wx zeroD) (ebox_ne x0) r0 (hS.2.2.2).size (l0.later ((Below.refl wx.heap.size wx).alloc (Nat.le_refl _) (.cells zeroD.cells 35))) q0
    exact AllReadyH.nil
  have st1_2 : ∀ (wx : World) (b1 : Nat) (D0 : EntD), (fun wx => EBox wx g0 e0 ∧ EBox wx g1 e1 ∧ EBox wx g2 e2 ∧ Below X.heap.size X wx) wx → EBox wx b1 zeroD → X.heap.size ≤ b1 → LaidE wx X.heap.size D0 → EntD.Same D0 e0.cut → wpAnyH Try.prog .any order3Ops (NoPanic Q) (fun wx => EBox wx g0 e0 ∧ EBox wx g1 e1 ∧ EBox wx g2 e2 ∧ Below X.heap.size X wx) 7 #[true, true, true, false, true, false, false, true, false, false, false, false] (order3Act s0 s1 s2 (.pointer (some ⟨g0, 0, none⟩)) (.pointer (some ⟨g1, 0, none⟩)) (.pointer (some ⟨g2, 0, none⟩)) s6 s13 s14 undef (.pointer (some ⟨b1, 0, none⟩)) undef (.agg e0.cells) (.agg D0.cells) (.agg e1.cells) undef (.agg e2.cells) undef) wx := by
    intro wx b1 D0 hS x1 r1 l0 q0
    refine wpAnyH_ready (rs := [3, 6, 8]) (by kernel_rfl) (by simp) ?_
    refine AllReadyH.cons (o := { dst := some 18, op := Op.call { callee := Callee.value (Operand.func 19), args := #[Operand.tmp 17], argTypes := #[35] }, type := 35, pos := "law.go:177", after := #[{ on := 2, ground := Ground.data }, { on := 1, ground := Ground.chain }], guard := none }) rfl (fun K hK => ?_) ?_
    · rw [if_pos (by rfl)]
      refine wp_call_entry (entry_any ((HK.out.2.1).later (hS.2.2.2))) rfl ?_
      rintro r w' ⟨D1, rfl, qN, lN, hb⟩
      refine ⟨_, rfl, hK.out _ _ ?_ (fun hS' => ?_)⟩
      · exact ⟨(hS.1).later (hb), (hS.2.1).later (hb), (hS.2.2.1).later (hb), (hS.2.2.2).trans ((hb).mono (hS.2.2.2).size)⟩
      · exact st2_2 w' b1 D0 D1 hS' (x1.later (hb)) r1 (l0.later (hb)) (lN.mono (hS.2.2.2).size) q0 qN
    refine AllReadyH.cons (o := { dst := some 7, op := Op.alloc 35, type := 0, pos := "law.go:177", after := #[], guard := none }) rfl (fun K hK => ?_) ?_
    · rw [if_pos (by rfl)]
      refine wp_alloc_entry ?_
      refine hK.out _ _ ?_ (fun hS' => ?_)
      · exact ⟨(hS.1).later ((Below.refl wx.heap.size wx).alloc (Nat.le_refl _) (.cells zeroD.cells 35)), (hS.2.1).later ((Below.refl wx.heap.size wx).alloc (Nat.le_refl _) (.cells zeroD.cells 35)), (hS.2.2.1).later ((Below.refl wx.heap.size wx).alloc (Nat.le_refl _) (.cells zeroD.cells 35)), (hS.2.2.2).trans (((Below.refl wx.heap.size wx).alloc (Nat.le_refl _) (.cells zeroD.cells 35)).mono (hS.2.2.2).size)⟩
      · exact st1_3 _ wx.heap.size b1 D0 hS' (EBox.new wx zeroD) (x1.later ((Below.refl wx.heap.size wx).alloc (Nat.le_refl _) (.cells zeroD.cells 35))) (Ne.symm (ebox_ne x1)) (hS.2.2.2).size r1 (l0.later ((Below.refl wx.heap.size wx).alloc (Nat.le_refl _) (.cells zeroD.cells 35))) q0
    refine AllReadyH.cons (o := { dst := some 9, op := Op.alloc 35, type := 0, pos := "law.go:177", after := #[], guard := none }) rfl (fun K hK => ?_) ?_
    · rw [if_pos (by rfl)]
      refine wp_alloc_entry ?_
      refine hK.out _ _ ?_ (fun hS' => ?_)
      · exact ⟨(hS.1).later ((Below.refl wx.heap.size wx).alloc (Nat.le_refl _) (.cells zeroD.cells 35)), (hS.2.1).later ((Below.refl wx.heap.size wx).alloc (Nat.le_refl _) (.cells zeroD.cells 35)), (hS.2.2.1).later ((Below.refl wx.heap.size wx).alloc (Nat.le_refl _) (.cells zeroD.cells 35)), (hS.2.2.2).trans (((Below.refl wx.heap.size wx).alloc (Nat.le_refl _) (.cells zeroD.cells 35)).mono (hS.2.2.2).size)⟩
      · exact st1_6 _ b1 wx.heap.size D0 hS' (x1.later ((Below.refl wx.heap.size wx).alloc (Nat.le_refl _) (.cells zeroD.cells 35))) (EBox.new wx zeroD) (ebox_ne x1) r1 (hS.2.2.2).size (l0.later ((Below.refl wx.heap.size wx).alloc (Nat.le_refl _) (.cells zeroD.cells 35))) q0
    exact AllReadyH.nil
  have st1_4 : ∀ (wx : World) (b2 : Nat) (D0 : EntD), (fun wx => EBox wx g0 e0 ∧ EBox wx g1 e1 ∧ EBox wx g2 e2 ∧ Below X.heap.size X wx) wx → EBox wx b2 zeroD → X.heap.size ≤ b2 → LaidE wx X.heap.size D0 → EntD.Same D0 e0.cut → wpAnyH Try.prog .any order3Ops (NoPanic Q) (fun wx => EBox wx g0 e0 ∧ EBox wx g1 e1 ∧ EBox wx g2 e2 ∧ Below X.heap.size X wx) 7 #[true, true, true, false, true, false, false, false, true, false, false, false] (order3Act s0 s1 s2 (.pointer (some ⟨g0, 0, none⟩)) (.pointer (some ⟨g1, 0, none⟩)) (.pointer (some ⟨g2, 0, none⟩)) s6 s13 s14 undef undef (.pointer (some ⟨b2, 0, none⟩)) (.agg e0.cells) (.agg D0.cells) (.agg e1.cells) undef (.agg e2.cells) undef) wx := by
    intro wx b2 D0 hS x2 r2 l0 q0
    refine wpAnyH_ready (rs := [3, 6, 7]) (by kernel_rfl) (by simp) ?_
    refine AllReadyH.cons (o := { dst := some 18, op := Op.call { callee := Callee.value (Operand.func 19), args := #[Operand.tmp 17], argTypes := #[35] }, type := 35, pos := "law.go:177", after := #[{ on := 2, ground := Ground.data }, { on := 1, ground := Ground.chain }], guard := none }) rfl (fun K hK => ?_) ?_
    · rw [if_pos (by rfl)]
      refine wp_call_entry (entry_any ((HK.out.2.1).later (hS.2.2.2))) rfl ?_
      rintro r w' ⟨D1, rfl, qN, lN, hb⟩
      refine ⟨_, rfl, hK.out _ _ ?_ (fun hS' => ?_)⟩
      · exact ⟨(hS.1).later (hb), (hS.2.1).later (hb), (hS.2.2.1).later (hb), (hS.2.2.2).trans ((hb).mono (hS.2.2.2).size)⟩
      · exact st2_4 w' b2 D0 D1 hS' (x2.later (hb)) r2 (l0.later (hb)) (lN.mono (hS.2.2.2).size) q0 qN
    refine AllReadyH.cons (o := { dst := some 7, op := Op.alloc 35, type := 0, pos := "law.go:177", after := #[], guard := none }) rfl (fun K hK => ?_) ?_
    · rw [if_pos (by rfl)]
      refine wp_alloc_entry ?_
      refine hK.out _ _ ?_ (fun hS' => ?_)
      · exact ⟨(hS.1).later ((Below.refl wx.heap.size wx).alloc (Nat.le_refl _) (.cells zeroD.cells 35)), (hS.2.1).later ((Below.refl wx.heap.size wx).alloc (Nat.le_refl _) (.cells zeroD.cells 35)), (hS.2.2.1).later ((Below.refl wx.heap.size wx).alloc (Nat.le_refl _) (.cells zeroD.cells 35)), (hS.2.2.2).trans (((Below.refl wx.heap.size wx).alloc (Nat.le_refl _) (.cells zeroD.cells 35)).mono (hS.2.2.2).size)⟩
      · exact st1_5 _ wx.heap.size b2 D0 hS' (EBox.new wx zeroD) (x2.later ((Below.refl wx.heap.size wx).alloc (Nat.le_refl _) (.cells zeroD.cells 35))) (Ne.symm (ebox_ne x2)) (hS.2.2.2).size r2 (l0.later ((Below.refl wx.heap.size wx).alloc (Nat.le_refl _) (.cells zeroD.cells 35))) q0
    refine AllReadyH.cons (o := { dst := some 8, op := Op.alloc 35, type := 0, pos := "law.go:177", after := #[], guard := none }) rfl (fun K hK => ?_) ?_
    · rw [if_pos (by rfl)]
      refine wp_alloc_entry ?_
      refine hK.out _ _ ?_ (fun hS' => ?_)
      · exact ⟨(hS.1).later ((Below.refl wx.heap.size wx).alloc (Nat.le_refl _) (.cells zeroD.cells 35)), (hS.2.1).later ((Below.refl wx.heap.size wx).alloc (Nat.le_refl _) (.cells zeroD.cells 35)), (hS.2.2.1).later ((Below.refl wx.heap.size wx).alloc (Nat.le_refl _) (.cells zeroD.cells 35)), (hS.2.2.2).trans (((Below.refl wx.heap.size wx).alloc (Nat.le_refl _) (.cells zeroD.cells 35)).mono (hS.2.2.2).size)⟩
      · exact st1_6 _ wx.heap.size b2 D0 hS' (EBox.new wx zeroD) (x2.later ((Below.refl wx.heap.size wx).alloc (Nat.le_refl _) (.cells zeroD.cells 35))) (Ne.symm (ebox_ne x2)) (hS.2.2.2).size r2 (l0.later ((Below.refl wx.heap.size wx).alloc (Nat.le_refl _) (.cells zeroD.cells 35))) q0
    exact AllReadyH.nil
  have st1_0 : ∀ (wx : World) (D0 : EntD), (fun wx => EBox wx g0 e0 ∧ EBox wx g1 e1 ∧ EBox wx g2 e2 ∧ Below X.heap.size X wx) wx → LaidE wx X.heap.size D0 → EntD.Same D0 e0.cut → wpAnyH Try.prog .any order3Ops (NoPanic Q) (fun wx => EBox wx g0 e0 ∧ EBox wx g1 e1 ∧ EBox wx g2 e2 ∧ Below X.heap.size X wx) 8 #[true, true, true, false, true, false, false, false, false, false, false, false] (order3Act s0 s1 s2 (.pointer (some ⟨g0, 0, none⟩)) (.pointer (some ⟨g1, 0, none⟩)) (.pointer (some ⟨g2, 0, none⟩)) s6 s13 s14 undef undef undef (.agg e0.cells) (.agg D0.cells) (.agg e1.cells) undef (.agg e2.cells) undef) wx := by
    intro wx D0 hS l0 q0
    refine wpAnyH_ready (rs := [3, 6, 7, 8]) (by kernel_rfl) (by simp) ?_
    refine AllReadyH.cons (o := { dst := some 18, op := Op.call { callee := Callee.value (Operand.func 19), args := #[Operand.tmp 17], argTypes := #[35] }, type := 35, pos := "law.go:177", after := #[{ on := 2, ground := Ground.data }, { on := 1, ground := Ground.chain }], guard := none }) rfl (fun K hK => ?_) ?_
    · rw [if_pos (by rfl)]
      refine wp_call_entry (entry_any ((HK.out.2.1).later (hS.2.2.2))) rfl ?_
      rintro r w' ⟨D1, rfl, qN, lN, hb⟩
      refine ⟨_, rfl, hK.out _ _ ?_ (fun hS' => ?_)⟩
      · exact ⟨(hS.1).later (hb), (hS.2.1).later (hb), (hS.2.2.1).later (hb), (hS.2.2.2).trans ((hb).mono (hS.2.2.2).size)⟩
      · exact st2_0 w' D0 D1 hS' (l0.later (hb)) (lN.mono (hS.2.2.2).size) q0 qN
    refine AllReadyH.cons (o := { dst := some 7, op := Op.alloc 35, type := 0, pos := "law.go:177", after := #[], guard := none }) rfl (fun K hK => ?_) ?_
    · rw [if_pos (by rfl)]
      refine wp_alloc_entry ?_
      refine hK.out _ _ ?_ (fun hS' => ?_)
      · exact ⟨(hS.1).later ((Below.refl wx.heap.size wx).alloc (Nat.le_refl _) (.cells zeroD.cells 35)), (hS.2.1).later ((Below.refl wx.heap.size wx).alloc (Nat.le_refl _) (.cells zeroD.cells 35)), (hS.2.2.1).later ((Below.refl wx.heap.size wx).alloc (Nat.le_refl _) (.cells zeroD.cells 35)), (hS.2.2.2).trans (((Below.refl wx.heap.size wx).alloc (Nat.le_refl _) (.cells zeroD.cells 35)).mono (hS.2.2.2).size)⟩
      · exact st1_1 _ wx.heap.size D0 hS' (EBox.new wx zeroD) (hS.2.2.2).size (l0.later ((Below.refl wx.heap.size wx).alloc (Nat.le_refl _) (.cells zeroD.cells 35))) q0
    refine AllReadyH.cons (o := { dst := some 8, op := Op.alloc 35, type := 0, pos := "law.go:177", after := #[], guard := none }) rfl (fun K hK => ?_) ?_
    · rw [if_pos (by rfl)]
      refine wp_alloc_entry ?_
      refine hK.out _ _ ?_ (fun hS' => ?_)
      · exact ⟨(hS.1).later ((Below.refl wx.heap.size wx).alloc (Nat.le_refl _) (.cells zeroD.cells 35)), (hS.2.1).later ((Below.refl wx.heap.size wx).alloc (Nat.le_refl _) (.cells zeroD.cells 35)), (hS.2.2.1).later ((Below.refl wx.heap.size wx).alloc (Nat.le_refl _) (.cells zeroD.cells 35)), (hS.2.2.2).trans (((Below.refl wx.heap.size wx).alloc (Nat.le_refl _) (.cells zeroD.cells 35)).mono (hS.2.2.2).size)⟩
      · exact st1_2 _ wx.heap.size D0 hS' (EBox.new wx zeroD) (hS.2.2.2).size (l0.later ((Below.refl wx.heap.size wx).alloc (Nat.le_refl _) (.cells zeroD.cells 35))) q0
    refine AllReadyH.cons (o := { dst := some 9, op := Op.alloc 35, type := 0, pos := "law.go:177", after := #[], guard := none }) rfl (fun K hK => ?_) ?_
    · rw [if_pos (by rfl)]
      refine wp_alloc_entry ?_
      refine hK.out _ _ ?_ (fun hS' => ?_)
      · exact ⟨(hS.1).later ((Below.refl wx.heap.size wx).alloc (Nat.le_refl _) (.cells zeroD.cells 35)), (hS.2.1).later ((Below.refl wx.heap.size wx).alloc (Nat.le_refl _) (.cells zeroD.cells 35)), (hS.2.2.1).later ((Below.refl wx.heap.size wx).alloc (Nat.le_refl _) (.cells zeroD.cells 35)), (hS.2.2.2).trans (((Below.refl wx.heap.size wx).alloc (Nat.le_refl _) (.cells zeroD.cells 35)).mono (hS.2.2.2).size)⟩
      · exact st1_4 _ wx.heap.size D0 hS' (EBox.new wx zeroD) (hS.2.2.2).size (l0.later ((Below.refl wx.heap.size wx).alloc (Nat.le_refl _) (.cells zeroD.cells 35))) q0
    exact AllReadyH.nil
  have st0_7 : ∀ (wx : World) (b0 b1 b2 : Nat), (fun wx => EBox wx g0 e0 ∧ EBox wx g1 e1 ∧ EBox wx g2 e2 ∧ Below X.heap.size X wx) wx → EBox wx b0 zeroD → EBox wx b1 zeroD → EBox wx b2 zeroD → b0 ≠ b1 → b0 ≠ b2 → b1 ≠ b2 → X.heap.size ≤ b0 → X.heap.size ≤ b1 → X.heap.size ≤ b2 → wpAnyH Try.prog .any order3Ops (NoPanic Q) (fun wx => EBox wx g0 e0 ∧ EBox wx g1 e1 ∧ EBox wx g2 e2 ∧ Below X.heap.size X wx) 6 #[true, false, true, false, true, false, true, true, true, false, false, false] (order3Act s0 s1 s2 (.pointer (some ⟨g0, 0, none⟩)) (.pointer (some ⟨g1, 0, none⟩)) (.pointer (some ⟨g2, 0, none⟩)) s6 s13 s14 (.pointer (some ⟨b0, 0, none⟩)) (.pointer (some ⟨b1, 0, none⟩)) (.pointer (some ⟨b2, 0, none⟩)) (.agg e0.cells) undef (.agg e1.cells) undef (.agg e2.cells) undef) wx := by
    intro wx b0 b1 b2 hS x0 x1 x2 n01 n02 n12 r0 r1 r2
    refine wpAnyH_ready (rs := [1]) (by kernel_rfl) (by simp) ?_
    refine AllReadyH.cons (o := { dst := some 16, op := Op.call { callee := Callee.value (Operand.func 19), args := #[Operand.tmp 15], argTypes := #[35] }, type := 35, pos := "law.go:177", after := #[{ on := 0, ground := Ground.data }], guard := none }) rfl (fun K hK => ?_) ?_
    · rw [if_pos (by rfl)]
      refine wp_call_entry (entry_any ((HK.out.1).later (hS.2.2.2))) rfl ?_
      rintro r w' ⟨D0, rfl, qN, lN, hb⟩
      refine ⟨_, rfl, hK.out _ _ ?_ (fun hS' => ?_)⟩
      · exact ⟨(hS.1).later (hb), (hS.2.1).later (hb), (hS.2.2.1).later (hb), (hS.2.2.2).trans ((hb).mono (hS.2.2.2).size)⟩
      · exact st1_7 w' b0 b1 b2 D0 hS' (x0.later (hb)) (x1.later (hb)) (x2.later (hb)) n01 n02 n12 r0 r1 r2 (lN.mono (hS.2.2.2).size) qN
    exact AllReadyH.nil
  have st0_3 : ∀ (wx : World) (b0 b1 : Nat), (fun wx => EBox wx g0 e0 ∧ EBox wx g1 e1 ∧ EBox wx g2 e2 ∧ Below X.heap.size X wx) wx → EBox wx b0 zeroD → EBox wx b1 zeroD → b0 ≠ b1 → X.heap.size ≤ b0 → X.heap.size ≤ b1 → wpAnyH Try.prog .any order3Ops (NoPanic Q) (fun wx => EBox wx g0 e0 ∧ EBox wx g1 e1 ∧ EBox wx g2 e2 ∧ Below X.heap.size X wx) 7 #[true, false, true, false, true, false, true, true, false, false, false, false] (order3Act s0 s1 s2 (.pointer (some ⟨g0, 0, none⟩)) (.pointer (some ⟨g1, 0, none⟩)) (.pointer (some ⟨g2, 0, none⟩)) s6 s13 s14 (.pointer (some ⟨b0, 0, none⟩)) (.pointer (some ⟨b1, 0, none⟩)) undef (.agg e0.cells) undef (.agg e1.cells) undef (.agg e2.cells) undef) wx := by
    intro wx b0 b1 hS x0 x1 n01 r0 r1
    refine wpAnyH_ready (rs := [1, 8]) (by kernel_rfl) (by simp) ?_
    refine AllReadyH.cons (o := { dst := some 16, op := Op.call { callee := Callee.value (Operand.func 19), args := #[Operand.tmp 15], argTypes := #[35] }, type := 35, pos := "law.go:177", after := #[{ on := 0, ground := Ground.data }], guard := none }) rfl (fun K hK => ?_) ?_
    · rw [if_pos (by rfl)]
      refine wp_call_entry (entry_any ((HK.out.1).later (hS.2.2.2))) rfl ?_
      rintro r w' ⟨D0, rfl, qN, lN, hb⟩
      refine ⟨_, rfl, hK.out _ _ ?_ (fun hS' => ?_)⟩
      · exact ⟨(hS.1).later (hb), (hS.2.1).later (hb), (hS.2.2.1).later (hb), (hS.2.2.2).trans ((hb).mono (hS.2.2.2).size)⟩
      · exact st1_3 w' b0 b1 D0 hS' (x0.later (hb)) (x1.later (hb)) n01 r0 r1 (lN.mono (hS.2.2.2).size) qN
    refine AllReadyH.cons (o := { dst := some 9, op := Op.alloc 35, type := 0, pos := "law.go:177", after := #[], guard := none }) rfl (fun K hK => ?_) ?_
    · rw [if_pos (by rfl)]
      refine wp_alloc_entry ?_
      refine hK.out _ _ ?_ (fun hS' => ?_)
      · exact ⟨(hS.1).later ((Below.refl wx.heap.size wx).alloc (Nat.le_refl _) (.cells zeroD.cells 35)), (hS.2.1).later ((Below.refl wx.heap.size wx).alloc (Nat.le_refl _) (.cells zeroD.cells 35)), (hS.2.2.1).later ((Below.refl wx.heap.size wx).alloc (Nat.le_refl _) (.cells zeroD.cells 35)), (hS.2.2.2).trans (((Below.refl wx.heap.size wx).alloc (Nat.le_refl _) (.cells zeroD.cells 35)).mono (hS.2.2.2).size)⟩
      · exact st0_7 _ b0 b1 wx.heap.size hS' (x0.later ((Below.refl wx.heap.size wx).alloc (Nat.le_refl _) (.cells zeroD.cells 35))) (x1.later ((Below.refl wx.heap.size wx).alloc (Nat.le_refl _) (.cells zeroD.cells 35))) (EBox.new wx zeroD) n01 (ebox_ne x0) (ebox_ne x1) r0 r1 (hS.2.2.2).size
    exact AllReadyH.nil
  have st0_5 : ∀ (wx : World) (b0 b2 : Nat), (fun wx => EBox wx g0 e0 ∧ EBox wx g1 e1 ∧ EBox wx g2 e2 ∧ Below X.heap.size X wx) wx → EBox wx b0 zeroD → EBox wx b2 zeroD → b0 ≠ b2 → X.heap.size ≤ b0 → X.heap.size ≤ b2 → wpAnyH Try.prog .any order3Ops (NoPanic Q) (fun wx => EBox wx g0 e0 ∧ EBox wx g1 e1 ∧ EBox wx g2 e2 ∧ Below X.heap.size X wx) 7 #[true, false, true, false, true, false, true, false, true, false, false, false] (order3Act s0 s1 s2 (.pointer (some ⟨g0, 0, none⟩)) (.pointer (some ⟨g1, 0, none⟩)) (.pointer (some ⟨g2, 0, none⟩)) s6 s13 s14 (.pointer (some ⟨b0, 0, none⟩)) undef (.pointer (some ⟨b2, 0, none⟩)) (.agg e0.cells) undef (.agg e1.cells) undef (.agg e2.cells) undef) wx := by
    intro wx b0 b2 hS x0 x2 n02 r0 r2
    refine wpAnyH_ready (rs := [1, 7]) (by kernel_rfl) (by simp) ?_
    refine AllReadyH.cons (o := { dst := some 16, op := Op.call { callee := Callee.value (Operand.func 19), args := #[Operand.tmp 15], argTypes := #[35] }, type := 35, pos := "law.go:177", after := #[{ on := 0, ground := Ground.data }], guard := none }) rfl (fun K hK => ?_) ?_
    · rw [if_pos (by rfl)]
      refine wp_call_entry (entry_any ((HK.out.1).later (hS.2.2.2))) rfl ?_
      rintro r w' ⟨D0, rfl, qN, lN, hb⟩
      refine ⟨_, rfl, hK.out _ _ ?_ (fun hS' => ?_)⟩
      · exact ⟨(hS.1).later (hb), (hS.2.1).later (hb), (hS.2.2.1).later (hb), (hS.2.2.2).trans ((hb).mono (hS.2.2.2).size)⟩
      · exact st1_5 w' b0 b2 D0 hS' (x0.later (hb)) (x2.later (hb)) n02 r0 r2 (lN.mono (hS.2.2.2).size) qN
    refine AllReadyH.cons (o := { dst := some 8, op := Op.alloc 35, type := 0, pos := "law.go:177", after := #[], guard := none }) rfl (fun K hK => ?_) ?_
    · rw [if_pos (by rfl)]
      refine wp_alloc_entry ?_
      refine hK.out _ _ ?_ (fun hS' => ?_)
      · exact ⟨(hS.1).later ((Below.refl wx.heap.size wx).alloc (Nat.le_refl _) (.cells zeroD.cells 35)), (hS.2.1).later ((Below.refl wx.heap.size wx).alloc (Nat.le_refl _) (.cells zeroD.cells 35)), (hS.2.2.1).later ((Below.refl wx.heap.size wx).alloc (Nat.le_refl _) (.cells zeroD.cells 35)), (hS.2.2.2).trans (((Below.refl wx.heap.size wx).alloc (Nat.le_refl _) (.cells zeroD.cells 35)).mono (hS.2.2.2).size)⟩
      · exact st0_7 _ b0 wx.heap.size b2 hS' (x0.later ((Below.refl wx.heap.size wx).alloc (Nat.le_refl _) (.cells zeroD.cells 35))) (EBox.new wx zeroD) (x2.later ((Below.refl wx.heap.size wx).alloc (Nat.le_refl _) (.cells zeroD.cells 35))) (ebox_ne x0) n02 (Ne.symm (ebox_ne x2)) r0 (hS.2.2.2).size r2
    exact AllReadyH.nil
  have st0_6 : ∀ (wx : World) (b1 b2 : Nat), (fun wx => EBox wx g0 e0 ∧ EBox wx g1 e1 ∧ EBox wx g2 e2 ∧ Below X.heap.size X wx) wx → EBox wx b1 zeroD → EBox wx b2 zeroD → b1 ≠ b2 → X.heap.size ≤ b1 → X.heap.size ≤ b2 → wpAnyH Try.prog .any order3Ops (NoPanic Q) (fun wx => EBox wx g0 e0 ∧ EBox wx g1 e1 ∧ EBox wx g2 e2 ∧ Below X.heap.size X wx) 7 #[true, false, true, false, true, false, false, true, true, false, false, false] (order3Act s0 s1 s2 (.pointer (some ⟨g0, 0, none⟩)) (.pointer (some ⟨g1, 0, none⟩)) (.pointer (some ⟨g2, 0, none⟩)) s6 s13 s14 undef (.pointer (some ⟨b1, 0, none⟩)) (.pointer (some ⟨b2, 0, none⟩)) (.agg e0.cells) undef (.agg e1.cells) undef (.agg e2.cells) undef) wx := by
    intro wx b1 b2 hS x1 x2 n12 r1 r2
    refine wpAnyH_ready (rs := [1, 6]) (by kernel_rfl) (by simp) ?_
    refine AllReadyH.cons (o := { dst := some 16, op := Op.call { callee := Callee.value (Operand.func 19), args := #[Operand.tmp 15], argTypes := #[35] }, type := 35, pos := "law.go:177", after := #[{ on := 0, ground := Ground.data }], guard := none }) rfl (fun K hK => ?_) ?_
    · rw [if_pos (by rfl)]
      refine wp_call_entry (entry_any ((HK.out.1).later (hS.2.2.2))) rfl ?_
      rintro r w' ⟨D0, rfl, qN, lN, hb⟩
      refine ⟨_, rfl, hK.out _ _ ?_ (fun hS' => ?_)⟩
      · exact ⟨(hS.1).later (hb), (hS.2.1).later (hb), (hS.2.2.1).later (hb), (hS.2.2.2).trans ((hb).mono (hS.2.2.2).size)⟩
      · exact st1_6 w' b1 b2 D0 hS' (x1.later (hb)) (x2.later (hb)) n12 r1 r2 (lN.mono (hS.2.2.2).size) qN
    refine AllReadyH.cons (o := { dst := some 7, op := Op.alloc 35, type := 0, pos := "law.go:177", after := #[], guard := none }) rfl (fun K hK => ?_) ?_
    · rw [if_pos (by rfl)]
      refine wp_alloc_entry ?_
      refine hK.out _ _ ?_ (fun hS' => ?_)
      · exact ⟨(hS.1).later ((Below.refl wx.heap.size wx).alloc (Nat.le_refl _) (.cells zeroD.cells 35)), (hS.2.1).later ((Below.refl wx.heap.size wx).alloc (Nat.le_refl _) (.cells zeroD.cells 35)), (hS.2.2.1).later ((Below.refl wx.heap.size wx).alloc (Nat.le_refl _) (.cells zeroD.cells 35)), (hS.2.2.2).trans (((Below.refl wx.heap.size wx).alloc (Nat.le_refl _) (.cells zeroD.cells 35)).mono (hS.2.2.2).size)⟩
      · exact st0_7 _ wx.heap.size b1 b2 hS' (EBox.new wx zeroD) (x1.later ((Below.refl wx.heap.size wx).alloc (Nat.le_refl _) (.cells zeroD.cells 35))) (x2.later ((Below.refl wx.heap.size wx).alloc (Nat.le_refl _) (.cells zeroD.cells 35))) (Ne.symm (ebox_ne x1)) (Ne.symm (ebox_ne x2)) n12 (hS.2.2.2).size r1 r2
    exact AllReadyH.nil
  have st0_1 : ∀ (wx : World) (b0 : Nat), (fun wx => EBox wx g0 e0 ∧ EBox wx g1 e1 ∧ EBox wx g2 e2 ∧ Below X.heap.size X wx) wx → EBox wx b0 zeroD → X.heap.size ≤ b0 → wpAnyH Try.prog .any order3Ops (NoPanic Q) (fun wx => EBox wx g0 e0 ∧ EBox wx g1 e1 ∧ EBox wx g2 e2 ∧ Below X.heap.size X wx) 8 #[true, false, true, false, true, false, true, false, false, false, false, false] (order3Act s0 s1 s2 (.pointer (some ⟨g0, 0, none⟩)) (.pointer (some ⟨g1, 0, none⟩)) (.pointer (some ⟨g2, 0, none⟩)) s6 s13 s14 (.pointer (some ⟨b0, 0, none⟩)) undef undef (.agg e0.cells) undef (.agg e1.cells) undef (.agg e2.cells) undef) wx := by
    intro wx b0 hS x0 r0
    refine wpAnyH_ready (rs := [1, 7, 8]) (by kernel_rfl) (by simp) ?_
    refine AllReadyH.cons (o := { dst := some 16, op := Op.call { callee := Callee.value (Operand.func 19), args := #[Operand.tmp 15], argTypes := #[35] }, type := 35, pos := "law.go:177", after := #[{ on := 0, ground := Ground.data }], guard := none }) rfl (fun K hK => ?_) ?_
    · rw [if_pos (by rfl)]
      refine wp_call_entry (entry_any ((HK.out.1).later (hS.2.2.2))) rfl ?_
      rintro r w' ⟨D0, rfl, qN, lN, hb⟩
      refine ⟨_, rfl, hK.out _ _ ?_ (fun hS' => ?_)⟩
      · exact ⟨(hS.1).later (hb), (hS.2.1).later (hb), (hS.2.2.1).later (hb), (hS.2.2.2).trans ((hb).mono (hS.2.2.2).size)⟩
      · exact st1_1 w' b0 D0 hS' (x0.later (hb)) r0 (lN.mono (hS.2.2.2).size) qN
    refine AllReadyH.cons (o := { dst := some 8, op := Op.alloc 35, type := 0, pos := "law.go:177", after := #[], guard := none }) rfl (fun K hK => ?_) ?_
    · rw [if_pos (by rfl)]
      refine wp_alloc_entry ?_
      refine hK.out _ _ ?_ (fun hS' => ?_)
      · exact ⟨(hS.1).later ((Below.refl wx.heap.size wx).alloc (Nat.le_refl _) (.cells zeroD.cells 35)), (hS.2.1).later ((Below.refl wx.heap.size wx).alloc (Nat.le_refl _) (.cells zeroD.cells 35)), (hS.2.2.1).later ((Below.refl wx.heap.size wx).alloc (Nat.le_refl _) (.cells zeroD.cells 35)), (hS.2.2.2).trans (((Below.refl wx.heap.size wx).alloc (Nat.le_refl _) (.cells zeroD.cells 35)).mono (hS.2.2.2).size)⟩
      · exact st0_3 _ b0 wx.heap.size hS' (x0.later ((Below.refl wx.heap.size wx).alloc (Nat.le_refl _) (.cells zeroD.cells 35))) (EBox.new wx zeroD) (ebox_ne x0) r0 (hS.2.2.2).size
    refine AllReadyH.cons (o := { dst := some 9, op := Op.alloc 35, type := 0, pos := "law.go:177", after := #[], guard := none }) rfl (fun K hK => ?_) ?_
    · rw [if_pos (by rfl)]
      refine wp_alloc_entry ?_
      refine hK.out _ _ ?_ (fun hS' => ?_)
      · exact ⟨(hS.1).later ((Below.refl wx.heap.size wx).alloc (Nat.le_refl _) (.cells zeroD.cells 35)), (hS.2.1).later ((Below.refl wx.heap.size wx).alloc (Nat.le_refl _) (.cells zeroD.cells 35)), (hS.2.2.1).later ((Below.refl wx.heap.size wx).alloc (Nat.le_refl _) (.cells zeroD.cells 35)), (hS.2.2.2).trans (((Below.refl wx.heap.size wx).alloc (Nat.le_refl _) (.cells zeroD.cells 35)).mono (hS.2.2.2).size)⟩
      · exact st0_5 _ b0 wx.heap.size hS' (x0.later ((Below.refl wx.heap.size wx).alloc (Nat.le_refl _) (.cells zeroD.cells 35))) (EBox.new wx zeroD) (ebox_ne x0) r0 (hS.2.2.2).size
    exact AllReadyH.nil
  have st0_2 : ∀ (wx : World) (b1 : Nat), (fun wx => EBox wx g0 e0 ∧ EBox wx g1 e1 ∧ EBox wx g2 e2 ∧ Below X.heap.size X wx) wx → EBox wx b1 zeroD → X.heap.size ≤ b1 → wpAnyH Try.prog .any order3Ops (NoPanic Q) (fun wx => EBox wx g0 e0 ∧ EBox wx g1 e1 ∧ EBox wx g2 e2 ∧ Below X.heap.size X wx) 8 #[true, false, true, false, true, false, false, true, false, false, false, false] (order3Act s0 s1 s2 (.pointer (some ⟨g0, 0, none⟩)) (.pointer (some ⟨g1, 0, none⟩)) (.pointer (some ⟨g2, 0, none⟩)) s6 s13 s14 undef (.pointer (some ⟨b1, 0, none⟩)) undef (.agg e0.cells) undef (.agg e1.cells) undef (.agg e2.cells) undef) wx := by
    intro wx b1 hS x1 r1
    refine wpAnyH_ready (rs := [1, 6, 8]) (by kernel_rfl) (by simp) ?_
    refine AllReadyH.cons (o := { dst := some 16, op := Op.call { callee := Callee.value (Operand.func 19), args := #[Operand.tmp 15], argTypes := #[35] }, type := 35, pos := "law.go:177", after := #[{ on := 0, ground := Ground.data }], guard := none }) rfl (fun K hK => ?_) ?_
    · rw [if_pos (by rfl)]
      refine wp_call_entry (entry_any ((HK.out.1).later (hS.2.2.2))) rfl ?_
      rintro r w' ⟨D0, rfl, qN, lN, hb⟩
      refine ⟨_, rfl, hK.out _ _ ?_ (fun hS' => ?_)⟩
      · exact ⟨(hS.1).later (hb), (hS.2.1).later (hb), (hS.2.2.1).later (hb), (hS.2.2.2).trans ((hb).mono (hS.2.2.2).size)⟩
      · exact st1_2 w' b1 D0 hS' (x1.later (hb)) r1 (lN.mono (hS.2.2.2).size) qN
    refine AllReadyH.cons (o := { dst := some 7, op := Op.alloc 35, type := 0, pos := "law.go:177", after := #[], guard := none }) rfl (fun K hK => ?_) ?_
    · rw [if_pos (by rfl)]
      refine wp_alloc_entry ?_
      refine hK.out _ _ ?_ (fun hS' => ?_)
      · exact ⟨(hS.1).later ((Below.refl wx.heap.size wx).alloc (Nat.le_refl _) (.cells zeroD.cells 35)), (hS.2.1).later ((Below.refl wx.heap.size wx).alloc (Nat.le_refl _) (.cells zeroD.cells 35)), (hS.2.2.1).later ((Below.refl wx.heap.size wx).alloc (Nat.le_refl _) (.cells zeroD.cells 35)), (hS.2.2.2).trans (((Below.refl wx.heap.size wx).alloc (Nat.le_refl _) (.cells zeroD.cells 35)).mono (hS.2.2.2).size)⟩
      · exact st0_3 _ wx.heap.size b1 hS' (EBox.new wx zeroD) (x1.later ((Below.refl wx.heap.size wx).alloc (Nat.le_refl _) (.cells zeroD.cells 35))) (Ne.symm (ebox_ne x1)) (hS.2.2.2).size r1
    refine AllReadyH.cons (o := { dst := some 9, op := Op.alloc 35, type := 0, pos := "law.go:177", after := #[], guard := none }) rfl (fun K hK => ?_) ?_
    · rw [if_pos (by rfl)]
      refine wp_alloc_entry ?_
      refine hK.out _ _ ?_ (fun hS' => ?_)
      · exact ⟨(hS.1).later ((Below.refl wx.heap.size wx).alloc (Nat.le_refl _) (.cells zeroD.cells 35)), (hS.2.1).later ((Below.refl wx.heap.size wx).alloc (Nat.le_refl _) (.cells zeroD.cells 35)), (hS.2.2.1).later ((Below.refl wx.heap.size wx).alloc (Nat.le_refl _) (.cells zeroD.cells 35)), (hS.2.2.2).trans (((Below.refl wx.heap.size wx).alloc (Nat.le_refl _) (.cells zeroD.cells 35)).mono (hS.2.2.2).size)⟩
      · exact st0_6 _ b1 wx.heap.size hS' (x1.later ((Below.refl wx.heap.size wx).alloc (Nat.le_refl _) (.cells zeroD.cells 35))) (EBox.new wx zeroD) (ebox_ne x1) r1 (hS.2.2.2).size
    exact AllReadyH.nil
  have st0_4 : ∀ (wx : World) (b2 : Nat), (fun wx => EBox wx g0 e0 ∧ EBox wx g1 e1 ∧ EBox wx g2 e2 ∧ Below X.heap.size X wx) wx → EBox wx b2 zeroD → X.heap.size ≤ b2 → wpAnyH Try.prog .any order3Ops (NoPanic Q) (fun wx => EBox wx g0 e0 ∧ EBox wx g1 e1 ∧ EBox wx g2 e2 ∧ Below X.heap.size X wx) 8 #[true, false, true, false, true, false, false, false, true, false, false, false] (order3Act s0 s1 s2 (.pointer (some ⟨g0, 0, none⟩)) (.pointer (some ⟨g1, 0, none⟩)) (.pointer (some ⟨g2, 0, none⟩)) s6 s13 s14 undef undef (.pointer (some ⟨b2, 0, none⟩)) (.agg e0.cells) undef (.agg e1.cells) undef (.agg e2.cells) undef) wx := by
    intro wx b2 hS x2 r2
    refine wpAnyH_ready (rs := [1, 6, 7]) (by kernel_rfl) (by simp) ?_
    refine AllReadyH.cons (o := { dst := some 16, op := Op.call { callee := Callee.value (Operand.func 19), args := #[Operand.tmp 15], argTypes := #[35] }, type := 35, pos := "law.go:177", after := #[{ on := 0, ground := Ground.data }], guard := none }) rfl (fun K hK => ?_) ?_
    · rw [if_pos (by rfl)]
      refine wp_call_entry (entry_any ((HK.out.1).later (hS.2.2.2))) rfl ?_
      rintro r w' ⟨D0, rfl, qN, lN, hb⟩
      refine ⟨_, rfl, hK.out _ _ ?_ (fun hS' => ?_)⟩
      · exact ⟨(hS.1).later (hb), (hS.2.1).later (hb), (hS.2.2.1).later (hb), (hS.2.2.2).trans ((hb).mono (hS.2.2.2).size)⟩
      · exact st1_4 w' b2 D0 hS' (x2.later (hb)) r2 (lN.mono (hS.2.2.2).size) qN
    refine AllReadyH.cons (o := { dst := some 7, op := Op.alloc 35, type := 0, pos := "law.go:177", after := #[], guard := none }) rfl (fun K hK => ?_) ?_
    · rw [if_pos (by rfl)]
      refine wp_alloc_entry ?_
      refine hK.out _ _ ?_ (fun hS' => ?_)
      · exact ⟨(hS.1).later ((Below.refl wx.heap.size wx).alloc (Nat.le_refl _) (.cells zeroD.cells 35)), (hS.2.1).later ((Below.refl wx.heap.size wx).alloc (Nat.le_refl _) (.cells zeroD.cells 35)), (hS.2.2.1).later ((Below.refl wx.heap.size wx).alloc (Nat.le_refl _) (.cells zeroD.cells 35)), (hS.2.2.2).trans (((Below.refl wx.heap.size wx).alloc (Nat.le_refl _) (.cells zeroD.cells 35)).mono (hS.2.2.2).size)⟩
      · exact st0_5 _ wx.heap.size b2 hS' (EBox.new wx zeroD) (x2.later ((Below.refl wx.heap.size wx).alloc (Nat.le_refl _) (.cells zeroD.cells 35))) (Ne.symm (ebox_ne x2)) (hS.2.2.2).size r2
    refine AllReadyH.cons (o := { dst := some 8, op := Op.alloc 35, type := 0, pos := "law.go:177", after := #[], guard := none }) rfl (fun K hK => ?_) ?_
    · rw [if_pos (by rfl)]
      refine wp_alloc_entry ?_
      refine hK.out _ _ ?_ (fun hS' => ?_)
      · exact ⟨(hS.1).later ((Below.refl wx.heap.size wx).alloc (Nat.le_refl _) (.cells zeroD.cells 35)), (hS.2.1).later ((Below.refl wx.heap.size wx).alloc (Nat.le_refl _) (.cells zeroD.cells 35)), (hS.2.2.1).later ((Below.refl wx.heap.size wx).alloc (Nat.le_refl _) (.cells zeroD.cells 35)), (hS.2.2.2).trans (((Below.refl wx.heap.size wx).alloc (Nat.le_refl _) (.cells zeroD.cells 35)).mono (hS.2.2.2).size)⟩
      · exact st0_6 _ wx.heap.size b2 hS' (EBox.new wx zeroD) (x2.later ((Below.refl wx.heap.size wx).alloc (Nat.le_refl _) (.cells zeroD.cells 35))) (Ne.symm (ebox_ne x2)) (hS.2.2.2).size r2
    exact AllReadyH.nil
  have st0_0 : ∀ (wx : World), (fun wx => EBox wx g0 e0 ∧ EBox wx g1 e1 ∧ EBox wx g2 e2 ∧ Below X.heap.size X wx) wx → wpAnyH Try.prog .any order3Ops (NoPanic Q) (fun wx => EBox wx g0 e0 ∧ EBox wx g1 e1 ∧ EBox wx g2 e2 ∧ Below X.heap.size X wx) 9 #[true, false, true, false, true, false, false, false, false, false, false, false] (order3Act s0 s1 s2 (.pointer (some ⟨g0, 0, none⟩)) (.pointer (some ⟨g1, 0, none⟩)) (.pointer (some ⟨g2, 0, none⟩)) s6 s13 s14 undef undef undef (.agg e0.cells) undef (.agg e1.cells) undef (.agg e2.cells) undef) wx := by
    intro wx hS
    refine wpAnyH_ready (rs := [1, 6, 7, 8]) (by kernel_rfl) (by simp) ?_
    refine AllReadyH.cons (o := { dst := some 16, op := Op.call { callee := Callee.value (Operand.func 19), args := #[Operand.tmp 15], argTypes := #[35] }, type := 35, pos := "law.go:177", after := #[{ on := 0, ground := Ground.data }], guard := none }) rfl (fun K hK => ?_) ?_
    · rw [if_pos (by rfl)]
      refine wp_call_entry (entry_any ((HK.out.1).later (hS.2.2.2))) rfl ?_
      rintro r w' ⟨D0, rfl, qN, lN, hb⟩
      refine ⟨_, rfl, hK.out _ _ ?_ (fun hS' => ?_)⟩
      · exact ⟨(hS.1).later (hb), (hS.2.1).later (hb), (hS.2.2.1).later (hb), (hS.2.2.2).trans ((hb).mono (hS.2.2.2).size)⟩
      · exact st1_0 w' D0 hS' (lN.mono (hS.2.2.2).size) qN
    refine AllReadyH.cons (o := { dst := some 7, op := Op.alloc 35, type := 0, pos := "law.go:177", after := #[], guard := none }) rfl (fun K hK => ?_) ?_
    · rw [if_pos (by rfl)]
      refine wp_alloc_entry ?_
      refine hK.out _ _ ?_ (fun hS' => ?_)
      · exact ⟨(hS.1).later ((Below.refl wx.heap.size wx).alloc (Nat.le_refl _) (.cells zeroD.cells 35)), (hS.2.1).later ((Below.refl wx.heap.size wx).alloc (Nat.le_refl _) (.cells zeroD.cells 35)), (hS.2.2.1).later ((Below.refl wx.heap.size wx).alloc (Nat.le_refl _) (.cells zeroD.cells 35)), (hS.2.2.2).trans (((Below.refl wx.heap.size wx).alloc (Nat.le_refl _) (.cells zeroD.cells 35)).mono (hS.2.2.2).size)⟩
      · exact st0_1 _ wx.heap.size hS' (EBox.new wx zeroD) (hS.2.2.2).size
    refine AllReadyH.cons (o := { dst := some 8, op := Op.alloc 35, type := 0, pos := "law.go:177", after := #[], guard := none }) rfl (fun K hK => ?_) ?_
    · rw [if_pos (by rfl)]
      refine wp_alloc_entry ?_
      refine hK.out _ _ ?_ (fun hS' => ?_)
      · exact ⟨(hS.1).later ((Below.refl wx.heap.size wx).alloc (Nat.le_refl _) (.cells zeroD.cells 35)), (hS.2.1).later ((Below.refl wx.heap.size wx).alloc (Nat.le_refl _) (.cells zeroD.cells 35)), (hS.2.2.1).later ((Below.refl wx.heap.size wx).alloc (Nat.le_refl _) (.cells zeroD.cells 35)), (hS.2.2.2).trans (((Below.refl wx.heap.size wx).alloc (Nat.le_refl _) (.cells zeroD.cells 35)).mono (hS.2.2.2).size)⟩
      · exact st0_2 _ wx.heap.size hS' (EBox.new wx zeroD) (hS.2.2.2).size
    refine AllReadyH.cons (o := { dst := some 9, op := Op.alloc 35, type := 0, pos := "law.go:177", after := #[], guard := none }) rfl (fun K hK => ?_) ?_
    · rw [if_pos (by rfl)]
      refine wp_alloc_entry ?_
      refine hK.out _ _ ?_ (fun hS' => ?_)
      · exact ⟨(hS.1).later ((Below.refl wx.heap.size wx).alloc (Nat.le_refl _) (.cells zeroD.cells 35)), (hS.2.1).later ((Below.refl wx.heap.size wx).alloc (Nat.le_refl _) (.cells zeroD.cells 35)), (hS.2.2.1).later ((Below.refl wx.heap.size wx).alloc (Nat.le_refl _) (.cells zeroD.cells 35)), (hS.2.2.2).trans (((Below.refl wx.heap.size wx).alloc (Nat.le_refl _) (.cells zeroD.cells 35)).mono (hS.2.2.2).size)⟩
      · exact st0_4 _ wx.heap.size hS' (EBox.new wx zeroD) (hS.2.2.2).size
    exact AllReadyH.nil
  refine wp_region_held_drew (S := (fun wx => EBox wx g0 e0 ∧ EBox wx g1 e1 ∧ EBox wx g2 e2 ∧ Below X.heap.size X wx)) (by kernel_rfl) ⟨HB.out.1.later XD, HB.out.2.1.later XD, HB.out.2.2.1.later XD, XD⟩ (fun hS => ?_)
  refine wpAnyH_take (i := 0) (oi := { dst := some 15, op := Op.load 35 (Operand.tmp 3), type := 35, pos := "law.go:177", after := #[], guard := none }) (v := .agg e0.cells) rfl (by kernel_rfl) (by kernel_rfl) (by kernel_rfl) (fun _ _ _ h => h) (Or.inl ⟨by rfl, fun w hw => load_entry (hw.1) rfl⟩) hS ?_
  refine wpAnyH_take (i := 2) (oi := { dst := some 17, op := Op.load 35 (Operand.tmp 4), type := 35, pos := "law.go:177", after := #[], guard := none }) (v := .agg e1.cells) rfl (by kernel_rfl) (by kernel_rfl) (by kernel_rfl) (fun _ _ _ h => h) (Or.inl ⟨by rfl, fun w hw => load_entry (hw.2.1) rfl⟩) hS ?_
  refine wpAnyH_take (i := 4) (oi := { dst := some 19, op := Op.load 35 (Operand.tmp 5), type := 35, pos := "law.go:177", after := #[], guard := none }) (v := .agg e2.cells) rfl (by kernel_rfl) (by kernel_rfl) (by kernel_rfl) (fun _ _ _ h => h) (Or.inl ⟨by rfl, fun w hw => load_entry (hw.2.2.1) rfl⟩) hS ?_
  exact st0_0 _ hS
end Go.Proofs.Ytjcpjpjccoeakaa
