import Derived.Test.YtjcpjpjccoeakaaJ18
namespace Go.Proofs.Ytjcpjpjccoeakaa
open Go.RowKit
set_option linter.unusedVariables false

def keysOps : Array Oper := #[{ dst := some 19, op := Op.load 35 (Operand.tmp 1), type := 35, pos := "law.go:121", after := #[], guard := none }, { dst := some 20, op := Op.call { callee := Callee.value (Operand.func 19), args := #[Operand.tmp 19], argTypes := #[35] }, type := 35, pos := "law.go:121", after := #[{ on := 0, ground := Ground.data }], guard := none }, { dst := some 21, op := Op.load 35 (Operand.tmp 1), type := 35, pos := "law.go:121", after := #[], guard := none }, { dst := some 22, op := Op.call { callee := Callee.value (Operand.func 19), args := #[Operand.tmp 21], argTypes := #[35] }, type := 35, pos := "law.go:121", after := #[{ on := 2, ground := Ground.data }, { on := 1, ground := Ground.chain }], guard := none }, { dst := some 3, op := Op.alloc 35, type := 0, pos := "law.go:121", after := #[], guard := none }, { dst := some 4, op := Op.alloc 35, type := 0, pos := "law.go:121", after := #[], guard := none }, { dst := none, op := Op.store 35 (Operand.tmp 3) (Operand.tmp 20), type := 0, pos := "law.go:121", after := #[{ on := 4, ground := Ground.data }, { on := 1, ground := Ground.data }, { on := 3, ground := Ground.chain }, { on := 0, ground := Ground.phase }, { on := 1, ground := Ground.phase }, { on := 2, ground := Ground.textOnly Departure.lateStores }, { on := 3, ground := Ground.textOnly Departure.lateStoresUnsure }, { on := 4, ground := Ground.phase }, { on := 5, ground := Ground.phase }], guard := none }, { dst := none, op := Op.store 35 (Operand.tmp 4) (Operand.tmp 22), type := 0, pos := "law.go:121", after := #[{ on := 5, ground := Ground.data }, { on := 3, ground := Ground.data }, { on := 6, ground := Ground.chain }, { on := 0, ground := Ground.phase }, { on := 1, ground := Ground.phase }, { on := 2, ground := Ground.phase }, { on := 3, ground := Ground.phase }, { on := 4, ground := Ground.phase }, { on := 5, ground := Ground.phase }, { on := 6, ground := Ground.phase }], guard := none }]
def keysAct (s0 s1 s2 s17 s18 v3 v4 v19 v20 v21 v22 : Value) : Act := ⟨#[s0, s1, s2, v3, v4, undef, undef, undef, undef, undef, undef, undef, undef, undef, undef, undef, undef, s17, s18, v19, v20, v21, v22, undef, undef, undef, undef, undef, undef, undef, undef, undef, undef, undef, undef, undef, undef, undef, undef, undef, undef, undef, undef, undef, undef, undef, undef, undef, undef, undef, undef, undef, undef, undef, undef, undef, undef, undef, undef, undef, undef, undef, undef, undef, undef, undef, undef, undef, undef, undef, undef, undef, undef, undef, undef, undef, undef, undef, undef, undef, undef, undef, undef, undef, undef, undef, undef, undef, undef, undef, undef, undef, undef, undef, undef, undef, undef, undef, undef, undef, undef, undef, undef, undef, undef, undef, undef, undef, undef, undef, undef, undef, undef, undef, undef, undef, undef, undef, undef, undef, undef, undef], []⟩

set_option maxRecDepth 100000 in
set_option maxHeartbeats 8000000 in
theorem keys_region {e0 : EntD} {g0 : Nat} {X : World} (h0 : EBox X g0 e0) (k0 : EntD.Ok X e0) (s0 s2 s17 s18 : Value) (Q : Exit → Act → World → Prop)
    (hQ : Hid (∀ (b0 b1 : Nat) (D0 D1 : EntD) (wF : World), EBox wF b0 D0 → EBox wF b1 D1 → b0 ≠ b1 → X.heap.size ≤ b0 → X.heap.size ≤ b1 → LaidE wF X.heap.size D0 → LaidE wF X.heap.size D1 → EntD.Same D0 e0.cut → EntD.Same D1 e0.cut → Below X.heap.size X wF → Q .normal (keysAct s0 (.pointer (some ⟨g0, 0, none⟩)) s2 s17 s18 (.pointer (some ⟨b0, 0, none⟩)) (.pointer (some ⟨b1, 0, none⟩)) (.agg e0.cells) (.agg D0.cells) (.agg e0.cells) (.agg D1.cells)) wF)) :
    Code.wp Try.prog (Code.region 3 keysOps true) Q (keysAct s0 (.pointer (some ⟨g0, 0, none⟩)) s2 s17 s18 undef undef undef undef undef undef) X := by
  have HK : Hid (EntD.Ok X e0 ∧ True) := ⟨k0, trivial⟩
  have XD : Below X.heap.size X X.drew := (Below.refl _ _).drew
  have HB : Hid (EBox X g0 e0 ∧ True) := ⟨h0, trivial⟩
  clear h0 k0
  refine wp_region_noPanic ?_
  have st2_3 : ∀ (wx : World) (b0 b1 : Nat) (D0 D1 : EntD), (fun wx => EBox wx g0 e0 ∧ Below X.heap.size X wx) wx → EBox wx b0 zeroD → EBox wx b1 zeroD → b0 ≠ b1 → X.heap.size ≤ b0 → X.heap.size ≤ b1 → LaidE wx X.heap.size D0 → LaidE wx X.heap.size D1 → EntD.Same D0 e0.cut → EntD.Same D1 e0.cut → wpAnyH Try.prog .any keysOps (NoPanic Q) (fun wx => EBox wx g0 e0 ∧ Below X.heap.size X wx) 2 #[true, true, true, true, true, true, false, false] (keysAct s0 (.pointer (some ⟨g0, 0, none⟩)) s2 s17 s18 (.pointer (some ⟨b0, 0, none⟩)) (.pointer (some ⟨b1, 0, none⟩)) (.agg e0.cells) (.agg D0.cells) (.agg e0.cells) (.agg D1.cells)) wx := by
    intro wx b0 b1 D0 D1 hS x0 x1 n01 r0 r1 l0 l1 q0 q1
    have y0 : EBox wx b0 zeroD := x0
    have y1 : EBox (filled wx b0 D0) b1 zeroD := (x1.apart (filled_apart _ b0 D0) (Ne.symm n01))
    refine wpAnyH_ready (rs := [6]) (by kernel_rfl) (by simp) ?_
    refine AllReadyH.cons (o := { dst := none, op := Op.store 35 (Operand.tmp 3) (Operand.tmp 20), type := 0, pos := "law.go:121", after := #[{ on := 4, ground := Ground.data }, { on := 1, ground := Ground.data }, { on := 3, ground := Ground.chain }, { on := 0, ground := Ground.phase }, { on := 1, ground := Ground.phase }, { on := 2, ground := Ground.textOnly Departure.lateStores }, { on := 3, ground := Ground.textOnly Departure.lateStoresUnsure }, { on := 4, ground := Ground.phase }, { on := 5, ground := Ground.phase }], guard := none }) rfl (fun K hK => ?_) AllReadyH.nil
    rw [if_pos (by rfl)]
    refine wp_store_entry y0 l0 rfl rfl ?_
    refine hK.out _ _ ?_ (fun hS' => ?_)
    · exact ⟨(hS.1.apart (filled_apart _ b0 D0) (ne_of_lt_le (ebox_lt HB.out.1) r0)), ((hS.2).trans ((filled_apart _ b0 D0).below r0 (hS.2).size))⟩
    refine wpAnyH_ready (rs := [7]) (by kernel_rfl) (by simp) ?_
    refine AllReadyH.cons (o := { dst := none, op := Op.store 35 (Operand.tmp 4) (Operand.tmp 22), type := 0, pos := "law.go:121", after := #[{ on := 5, ground := Ground.data }, { on := 3, ground := Ground.data }, { on := 6, ground := Ground.chain }, { on := 0, ground := Ground.phase }, { on := 1, ground := Ground.phase }, { on := 2, ground := Ground.phase }, { on := 3, ground := Ground.phase }, { on := 4, ground := Ground.phase }, { on := 5, ground := Ground.phase }, { on := 6, ground := Ground.phase }], guard := none }) rfl (fun K hK => ?_) AllReadyH.nil
    rw [if_pos (by rfl)]
    refine wp_store_entry y1 l1 rfl rfl ?_
    refine hK.out _ _ ?_ (fun hS' => ?_)
    · exact ⟨((hS.1.apart (filled_apart _ b0 D0) (ne_of_lt_le (ebox_lt HB.out.1) r0)).apart (filled_apart _ b1 D1) (ne_of_lt_le (ebox_lt HB.out.1) r1)), (((hS.2).trans ((filled_apart _ b0 D0).below r0 (hS.2).size)).trans ((filled_apart _ b1 D1).below r1 ((hS.2).trans ((filled_apart _ b0 D0).below r0 (hS.2).size)).size))⟩
    refine wpAnyH_done (by kernel_rfl) ?_ _
    exact NoPanic.normal (hQ.out b0 b1 D0 D1 _ ((filled_box y0 D0).apart (filled_apart _ b1 D1) n01) (filled_box y1 D1) n01 r0 r1 ((l0.fillE y0).fillE y1) ((l1.fillE y0).fillE y1) q0 q1 (((hS.2).trans ((filled_apart _ b0 D0).below r0 (hS.2).size)).trans ((filled_apart _ b1 D1).below r1 ((hS.2).trans ((filled_apart _ b0 D0).below r0 (hS.2).size)).size)))
  have st2_1 : ∀ (wx : World) (b0 : Nat) (D0 D1 : EntD), (fun wx => EBox wx g0 e0 ∧ Below X.heap.size X wx) wx → EBox wx b0 zeroD → X.heap.size ≤ b0 → LaidE wx X.heap.size D0 → LaidE wx X.heap.size D1 → EntD.Same D0 e0.cut → EntD.Same D1 e0.cut → wpAnyH Try.prog .any keysOps (NoPanic Q) (fun wx => EBox wx g0 e0 ∧ Below X.heap.size X wx) 3 #[true, true, true, true, true, false, false, false] (keysAct s0 (.pointer (some ⟨g0, 0, none⟩)) s2 s17 s18 (.pointer (some ⟨b0, 0, none⟩)) undef (.agg e0.cells) (.agg D0.cells) (.agg e0.cells) (.agg D1.cells)) wx := by
    intro wx b0 D0 D1 hS x0 r0 l0 l1 q0 q1
    refine wpAnyH_ready (rs := [5]) (by kernel_rfl) (by simp) ?_
    refine AllReadyH.cons (o := { dst := some 4, op := Op.alloc 35, type := 0, pos := "law.go:121", after := #[], guard := none }) rfl (fun K hK => ?_) ?_
    · rw [if_pos (by rfl)]
      refine wp_alloc_entry ?_
      refine hK.out _ _ ?_ (fun hS' => ?_)
      · exact ⟨(hS.1).later ((Below.refl wx.heap.size wx).alloc (Nat.le_refl _) (.cells zeroD.cells 35)), (hS.2).trans (((Below.refl wx.heap.size wx).alloc (Nat.le_refl _) (.cells zeroD.cells 35)).mono (hS.2).size)⟩
      · exact st2_3 _ b0 wx.heap.size D0 D1 hS' (x0.later ((Below.refl wx.heap.size wx).alloc (Nat.le_refl _) (.cells zeroD.cells 35))) (EBox.new wx zeroD) (ebox_ne x0) r0 (hS.2).size (l0.later ((Below.refl wx.heap.size wx).alloc (Nat.le_refl _) (.cells zeroD.cells 35))) (l1.later ((Below.refl wx.heap.size wx).alloc (Nat.le_refl _) (.cells zeroD.cells 35))) q0 q1
    exact AllReadyH.nil
  have st2_2 : ∀ (wx : World) (b1 : Nat) (D0 D1 : EntD), (fun wx => EBox wx g0 e0 ∧ Below X.heap.size X wx) wx → EBox wx b1 zeroD → X.heap.size ≤ b1 → LaidE wx X.heap.size D0 → LaidE wx X.heap.size D1 → EntD.Same D0 e0.cut → EntD.Same D1 e0.cut → wpAnyH Try.prog .any keysOps (NoPanic Q) (fun wx => EBox wx g0 e0 ∧ Below X.heap.size X wx) 3 #[true, true, true, true, false, true, false, false] (keysAct s0 (.pointer (some ⟨g0, 0, none⟩)) s2 s17 s18 undef (.pointer (some ⟨b1, 0, none⟩)) (.agg e0.cells) (.agg D0.cells) (.agg e0.cells) (.agg D1.cells)) wx := by
    intro wx b1 D0 D1 hS x1 r1 l0 l1 q0 q1
    refine wpAnyH_ready (rs := [4]) (by kernel_rfl) (by simp) ?_
    refine AllReadyH.cons (o := { dst := some 3, op := Op.alloc 35, type := 0, pos := "law.go:121", after := #[], guard := none }) rfl (fun K hK => ?_) ?_
    · rw [if_pos (by rfl)]
      refine wp_alloc_entry ?_
      refine hK.out _ _ ?_ (fun hS' => ?_)
      · exact ⟨(hS.1).later ((Below.refl wx.heap.size wx).alloc (Nat.le_refl _) (.cells zeroD.cells 35)), (hS.2).trans (((Below.refl wx.heap.size wx).alloc (Nat.le_refl _) (.cells zeroD.cells 35)).mono (hS.2).size)⟩
      · exact st2_3 _ wx.heap.size b1 D0 D1 hS' (EBox.new wx zeroD) (x1.later ((Below.refl wx.heap.size wx).alloc (Nat.le_refl _) (.cells zeroD.cells 35))) (Ne.symm (ebox_ne x1)) (hS.2).size r1 (l0.later ((Below.refl wx.heap.size wx).alloc (Nat.le_refl _) (.cells zeroD.cells 35))) (l1.later ((Below.refl wx.heap.size wx).alloc (Nat.le_refl _) (.cells zeroD.cells 35))) q0 q1
    exact AllReadyH.nil
  have st2_0 : ∀ (wx : World) (D0 D1 : EntD), (fun wx => EBox wx g0 e0 ∧ Below X.heap.size X wx) wx → LaidE wx X.heap.size D0 → LaidE wx X.heap.size D1 → EntD.Same D0 e0.cut → EntD.Same D1 e0.cut → wpAnyH Try.prog .any keysOps (NoPanic Q) (fun wx => EBox wx g0 e0 ∧ Below X.heap.size X wx) 4 #[true, true, true, true, false, false, false, false] (keysAct s0 (.pointer (some ⟨g0, 0, none⟩)) s2 s17 s18 undef undef (.agg e0.cells) (.agg D0.cells) (.agg e0.cells) (.agg D1.cells)) wx := by
    intro wx D0 D1 hS l0 l1 q0 q1
    refine wpAnyH_ready (rs := [4, 5]) (by kernel_rfl) (by simp) ?_
    refine AllReadyH.cons (o := { dst := some 3, op := Op.alloc 35, type := 0, pos := "law.go:121", after := #[], guard := none }) rfl (fun K hK => ?_) ?_
    · rw [if_pos (by rfl)]
      refine wp_alloc_entry ?_
      refine hK.out _ _ ?_ (fun hS' => ?_)
      · exact ⟨(hS.1).later ((Below.refl wx.heap.size wx).alloc (Nat.le_refl _) (.cells zeroD.cells 35)), (hS.2).trans (((Below.refl wx.heap.size wx).alloc (Nat.le_refl _) (.cells zeroD.cells 35)).mono (hS.2).size)⟩
      · exact st2_1 _ wx.heap.size D0 D1 hS' (EBox.new wx zeroD) (hS.2).size (l0.later ((Below.refl wx.heap.size wx).alloc (Nat.le_refl _) (.cells zeroD.cells 35))) (l1.later ((Below.refl wx.heap.size wx).alloc (Nat.le_refl _) (.cells zeroD.cells 35))) q0 q1
    refine AllReadyH.cons (o := { dst := some 4, op := Op.alloc 35, type := 0, pos := "law.go:121", after := #[], guard := none }) rfl (fun K hK => ?_) ?_
    · rw [if_pos (by rfl)]
      refine wp_alloc_entry ?_
      refine hK.out _ _ ?_ (fun hS' => ?_)
      · exact ⟨(hS.1).later ((Below.refl wx.heap.size wx).alloc (Nat.le_refl _) (.cells zeroD.cells 35)), (hS.2).trans (((Below.refl wx.heap.size wx).alloc (Nat.le_refl _) (.cells zeroD.cells 35)).mono (hS.2).size)⟩
      · exact st2_2 _ wx.heap.size D0 D1 hS' (EBox.new wx zeroD) (hS.2).size (l0.later ((Below.refl wx.heap.size wx).alloc (Nat.le_refl _) (.cells zeroD.cells 35))) (l1.later ((Below.refl wx.heap.size wx).alloc (Nat.le_refl _) (.cells zeroD.cells 35))) q0 q1
    exact AllReadyH.nil
  have st1_3 : ∀ (wx : World) (b0 b1 : Nat) (D0 : EntD), (fun wx => EBox wx g0 e0 ∧ Below X.heap.size X wx) wx → EBox wx b0 zeroD → EBox wx b1 zeroD → b0 ≠ b1 → X.heap.size ≤ b0 → X.heap.size ≤ b1 → LaidE wx X.heap.size D0 → EntD.Same D0 e0.cut → wpAnyH Try.prog .any keysOps (NoPanic Q) (fun wx => EBox wx g0 e0 ∧ Below X.heap.size X wx) 3 #[true, true, true, false, true, true, false, false] (keysAct s0 (.pointer (some ⟨g0, 0, none⟩)) s2 s17 s18 (.pointer (some ⟨b0, 0, none⟩)) (.pointer (some ⟨b1, 0, none⟩)) (.agg e0.cells) (.agg D0.cells) (.agg e0.cells) undef) wx := by
    intro wx b0 b1 D0 hS x0 x1 n01 r0 r1 l0 q0
    refine wpAnyH_ready (rs := [3]) (by kernel_rfl) (by simp) ?_
    refine AllReadyH.cons (o := { dst := some 22, op := Op.call { callee := Callee.value (Operand.func 19), args := #[Operand.tmp 21], argTypes := #[35] }, type := 35, pos := "law.go:121", after := #[{ on := 2, ground := Ground.data }, { on := 1, ground := Ground.chain }], guard := none }) rfl (fun K hK => ?_) ?_
    · rw [if_pos (by rfl)]
      refine wp_call_entry (entry_any ((HK.out.1).later (hS.2))) rfl ?_
      rintro r w' ⟨D1, rfl, qN, lN, hb⟩
      refine ⟨_, rfl, hK.out _ _ ?_ (fun hS' => ?_)⟩
      · exact ⟨(hS.1).later (hb), (hS.2).trans ((hb).mono (hS.2).size)⟩
      · exact st2_3 w' b0 b1 D0 D1 hS' (x0.later (hb)) (x1.later (hb)) n01 r0 r1 (l0.later (hb)) (lN.mono (hS.2).size) q0 qN
    exact AllReadyH.nil
  have st1_1 : ∀ (wx : World) (b0 : Nat) (D0 : EntD), (fun wx => EBox wx g0 e0 ∧ Below X.heap.size X wx) wx → EBox wx b0 zeroD → X.heap.size ≤ b0 → LaidE wx X.heap.size D0 → EntD.Same D0 e0.cut → wpAnyH Try.prog .any keysOps (NoPanic Q) (fun wx => EBox wx g0 e0 ∧ Below X.heap.size X wx) 4 #[true, true, true, false, true, false, false, false] (keysAct s0 (.pointer (some ⟨g0, 0, none⟩)) s2 s17 s18 (.pointer (some ⟨b0, 0, none⟩)) undef (.agg e0.cells) (.agg D0.cells) (.agg e0.cells) undef) wx := by
    intro wx b0 D0 hS x0 r0 l0 q0
    refine wpAnyH_ready (rs := [3, 5]) (by kernel_rfl) (by simp) ?_
    refine AllReadyH.cons (o := { dst := some 22, op := Op.call { callee := Callee.value (Operand.func 19), args := #[Operand.tmp 21], argTypes := #[35] }, type := 35, pos := "law.go:121", after := #[{ on := 2, ground := Ground.data }, { on := 1, ground := Ground.chain }], guard := none }) rfl (fun K hK => ?_) ?_
    · rw [if_pos (by rfl)]
      refine wp_call_entry (entry_any ((HK.out.1).later (hS.2))) rfl ?_
      rintro r w' ⟨D1, rfl, qN, lN, hb⟩
      refine ⟨_, rfl, hK.out _ _ ?_ (fun hS' => ?_)⟩
      · exact ⟨(hS.1).later (hb), (hS.2).trans ((hb).mono (hS.2).size)⟩
      · exact st2_1 w' b0 D0 D1 hS' (x0.later (hb)) r0 (l0.later (hb)) (lN.mono (hS.2).size) q0 qN
    refine AllReadyH.cons (o := { dst := some 4, op := Op.alloc 35, type := 0, pos := "law.go:121", after := #[], guard := none }) rfl (fun K hK => ?_) ?_
    · rw [if_pos (by rfl)]
      refine wp_alloc_entry ?_
      refine hK.out _ _ ?_ (fun hS' => ?_)
      · exact ⟨(hS.1).later ((Below.refl wx.heap.size wx).alloc (Nat.le_refl _) (.cells zeroD.cells 35)), (hS.2).trans (((Below.refl wx.heap.size wx).alloc (Nat.le_refl _) (.cells zeroD.cells 35)).mono (hS.2).size)⟩
      · exact st1_3 _ b0 wx.heap.size D0 hS' (x0.later ((Below.refl wx.heap.size wx).alloc (Nat.le_refl _) (.cells zeroD.cells 35))) (EBox.new wx zeroD) (ebox_ne x0) r0 (hS.2).size (l0.later ((Below.refl wx.heap.size wx).alloc (Nat.le_refl _) (.cells zeroD.cells 35))) q0
    exact AllReadyH.nil
  have st1_2 : ∀ (wx : World) (b1 : Nat) (D0 : EntD), (fun wx => EBox wx g0 e0 ∧ Below X.heap.size X wx) wx → EBox wx b1 zeroD → X.heap.size ≤ b1 → LaidE wx X.heap.size D0 → EntD.Same D0 e0.cut → wpAnyH Try.prog .any keysOps (NoPanic Q) (fun wx => EBox wx g0 e0 ∧ Below X.heap.size X wx) 4 #[true, true, true, false, false, true, false, false] (keysAct s0 (.pointer (some ⟨g0, 0, none⟩)) s2 s17 s18 undef (.pointer (some ⟨b1, 0, none⟩)) (.agg e0.cells) (.agg D0.cells) (.agg e0.cells) undef) wx := by
    intro wx b1 D0 hS x1 r1 l0 q0
    refine wpAnyH_ready (rs := [3, 4]) (by kernel_rfl) (by simp) ?_
    refine AllReadyH.cons (o := { dst := some 22, op := Op.call { callee := Callee.value (Operand.func 19), args := #[Operand.tmp 21], argTypes := #[35] }, type := 35, pos := "law.go:121", after := #[{ on := 2, ground := Ground.data }, { on := 1, ground := Ground.chain }], guard := none }) rfl (fun K hK => ?_) ?_
    · rw [if_pos (by rfl)]
      refine wp_call_entry (entry_any ((HK.out.1).later (hS.2))) rfl ?_
      rintro r w' ⟨D1, rfl, qN, lN, hb⟩
      refine ⟨_, rfl, hK.out _ _ ?_ (fun hS' => ?_)⟩
      · exact ⟨(hS.1).later (hb), (hS.2).trans ((hb).mono (hS.2).size)⟩
      · exact st2_2 w' b1 D0 D1 hS' (x1.later (hb)) r1 (l0.later (hb)) (lN.mono (hS.2).size) q0 qN
    refine AllReadyH.cons (o := { dst := some 3, op := Op.alloc 35, type := 0, pos := "law.go:121", after := #[], guard := none }) rfl (fun K hK => ?_) ?_
    · rw [if_pos (by rfl)]
      refine wp_alloc_entry ?_
      refine hK.out _ _ ?_ (fun hS' => ?_)
      · exact ⟨(hS.1).later ((Below.refl wx.heap.size wx).alloc (Nat.le_refl _) (.cells zeroD.cells 35)), (hS.2).trans (((Below.refl wx.heap.size wx).alloc (Nat.le_refl _) (.cells zeroD.cells 35)).mono (hS.2).size)⟩
      · exact st1_3 _ wx.heap.size b1 D0 hS' (EBox.new wx zeroD) (x1.later ((Below.refl wx.heap.size wx).alloc (Nat.le_refl _) (.cells zeroD.cells 35))) (Ne.symm (ebox_ne x1)) (hS.2).size r1 (l0.later ((Below.refl wx.heap.size wx).alloc (Nat.le_refl _) (.cells zeroD.cells 35))) q0
    exact AllReadyH.nil
  have st1_0 : ∀ (wx : World) (D0 : EntD), (fun wx => EBox wx g0 e0 ∧ Below X.heap.size X wx) wx → LaidE wx X.heap.size D0 → EntD.Same D0 e0.cut → wpAnyH Try.prog .any keysOps (NoPanic Q) (fun wx => EBox wx g0 e0 ∧ Below X.heap.size X wx) 5 #[true, true, true, false, false, false, false, false] (keysAct s0 (.pointer (some ⟨g0, 0, none⟩)) s2 s17 s18 undef undef (.agg e0.cells) (.agg D0.cells) (.agg e0.cells) undef) wx := by
    intro wx D0 hS l0 q0
    refine wpAnyH_ready (rs := [3, 4, 5]) (by kernel_rfl) (by simp) ?_
    refine AllReadyH.cons (o := { dst := some 22, op := Op.call { callee := Callee.value (Operand.func 19), args := #[Operand.tmp 21], argTypes := #[35] }, type := 35, pos := "law.go:121", after := #[{ on := 2, ground := Ground.data }, { on := 1, ground := Ground.chain }], guard := none }) rfl (fun K hK => ?_) ?_
    · rw [if_pos (by rfl)]
      refine wp_call_entry (entry_any ((HK.out.1).later (hS.2))) rfl ?_
      rintro r w' ⟨D1, rfl, qN, lN, hb⟩
      refine ⟨_, rfl, hK.out _ _ ?_ (fun hS' => ?_)⟩
      · exact ⟨(hS.1).later (hb), (hS.2).trans ((hb).mono (hS.2).size)⟩
      · exact st2_0 w' D0 D1 hS' (l0.later (hb)) (lN.mono (hS.2).size) q0 qN
    refine AllReadyH.cons (o := { dst := some 3, op := Op.alloc 35, type := 0, pos := "law.go:121", after := #[], guard := none }) rfl (fun K hK => ?_) ?_
    · rw [if_pos (by rfl)]
      refine wp_alloc_entry ?_
      refine hK.out _ _ ?_ (fun hS' => ?_)
      · exact ⟨(hS.1).later ((Below.refl wx.heap.size wx).alloc (Nat.le_refl _) (.cells zeroD.cells 35)), (hS.2).trans (((Below.refl wx.heap.size wx).alloc (Nat.le_refl _) (.cells zeroD.cells 35)).mono (hS.2).size)⟩
      · exact st1_1 _ wx.heap.size D0 hS' (EBox.new wx zeroD) (hS.2).size (l0.later ((Below.refl wx.heap.size wx).alloc (Nat.le_refl _) (.cells zeroD.cells 35))) q0
    refine AllReadyH.cons (o := { dst := some 4, op := Op.alloc 35, type := 0, pos := "law.go:121", after := #[], guard := none }) rfl (fun K hK => ?_) ?_
    · rw [if_pos (by rfl)]
      refine wp_alloc_entry ?_
      refine hK.out _ _ ?_ (fun hS' => ?_)
      · exact ⟨(hS.1).later ((Below.refl wx.heap.size wx).alloc (Nat.le_refl _) (.cells zeroD.cells 35)), (hS.2).trans (((Below.refl wx.heap.size wx).alloc (Nat.le_refl _) (.cells zeroD.cells 35)).mono (hS.2).size)⟩
      · exact st1_2 _ wx.heap.size D0 hS' (EBox.new wx zeroD) (hS.2).size (l0.later ((Below.refl wx.heap.size wx).alloc (Nat.le_refl _) (.cells zeroD.cells 35))) q0
    exact AllReadyH.nil
  have st0_3 : ∀ (wx : World) (b0 b1 : Nat), (fun wx => EBox wx g0 e0 ∧ Below X.heap.size X wx) wx → EBox wx b0 zeroD → EBox wx b1 zeroD → b0 ≠ b1 → X.heap.size ≤ b0 → X.heap.size ≤ b1 → wpAnyH Try.prog .any keysOps (NoPanic Q) (fun wx => EBox wx g0 e0 ∧ Below X.heap.size X wx) 4 #[true, false, true, false, true, true, false, false] (keysAct s0 (.pointer (some ⟨g0, 0, none⟩)) s2 s17 s18 (.pointer (some ⟨b0, 0, none⟩)) (.pointer (some ⟨b1, 0, none⟩)) (.agg e0.cells) undef (.agg e0.cells) undef) wx := by
    intro wx b0 b1 hS x0 x1 n01 r0 r1
    refine wpAnyH_ready (rs := [1]) (by kernel_rfl) (by simp) ?_
    refine AllReadyH.cons (o := { dst := some 20, op := Op.call { callee := Callee.value (Operand.func 19), args := #[Operand.tmp 19], argTypes := #[35] }, type := 35, pos := "law.go:121", after := #[{ on := 0, ground := Ground.data }], guard := none }) rfl (fun K hK => ?_) ?_
    · rw [if_pos (by rfl)]
      refine wp_call_entry (entry_any ((HK.out.1).later (hS.2))) rfl ?_
      rintro r w' ⟨D0, rfl, qN, lN, hb⟩
      refine ⟨_, rfl, hK.out _ _ ?_ (fun hS' => ?_)⟩
      · exact ⟨(hS.1).later (hb), (hS.2).trans ((hb).mono (hS.2).size)⟩
      · exact st1_3 w' b0 b1 D0 hS' (x0.later (hb)) (x1.later (hb)) n01 r0 r1 (lN.mono (hS.2).size) qN
    exact AllReadyH.nil
  have st0_1 : ∀ (wx : World) (b0 : Nat), (fun wx => EBox wx g0 e0 ∧ Below X.heap.size X wx) wx → EBox wx b0 zeroD → X.heap.size ≤ b0 → wpAnyH Try.prog .any keysOps (NoPanic Q) (fun wx => EBox wx g0 e0 ∧ Below X.heap.size X wx) 5 #[true, false, true, false, true, false, false, false] (keysAct s0 (.pointer (some ⟨g0, 0, none⟩)) s2 s17 s18 (.pointer (some ⟨b0, 0, none⟩)) undef (.agg e0.cells) undef (.agg e0.cells) undef) wx := by
    intro wx b0 hS x0 r0
    refine wpAnyH_ready (rs := [1, 5]) (by kernel_rfl) (by simp) ?_
    refine AllReadyH.cons (o := { dst := some 20, op := Op.call { callee := Callee.value (Operand.func 19), args := #[Operand.tmp 19], argTypes := #[35] }, type := 35, pos := "law.go:121", after := #[{ on := 0, ground := Ground.data }], guard := none }) rfl (fun K hK => ?_) ?_
    · rw [if_pos (by rfl)]
      refine wp_call_entry (entry_any ((HK.out.1).later (hS.2))) rfl ?_
      rintro r w' ⟨D0, rfl, qN, lN, hb⟩
      refine ⟨_, rfl, hK.out _ _ ?_ (fun hS' => ?_)⟩
      · exact ⟨(hS.1).later (hb), (hS.2).trans ((hb).mono (hS.2).size)⟩
      · exact st1_1 w' b0 D0 hS' (x0.later (hb)) r0 (lN.mono (hS.2).size) qN
    refine AllReadyH.cons (o := { dst := some 4, op := Op.alloc 35, type := 0, pos := "law.go:121", after := #[], guard := none }) rfl (fun K hK => ?_) ?_
    · rw [if_pos (by rfl)]
      refine wp_alloc_entry ?_
      refine hK.out _ _ ?_ (fun hS' => ?_)
      · exact ⟨(hS.1).later ((Below.refl wx.heap.size wx).alloc (Nat.le_refl _) (.cells zeroD.cells 35)), (hS.2).trans (((Below.refl wx.heap.size wx).alloc (Nat.le_refl _) (.cells zeroD.cells 35)).mono (hS.2).size)⟩
      · exact st0_3 _ b0 wx.heap.size hS' (x0.later ((Below.refl wx.heap.size wx).alloc (Nat.le_refl _) (.cells zeroD.cells 35))) (EBox.new wx zeroD) (ebox_ne x0) r0 (hS.2).size
    exact AllReadyH.nil
  have st0_2 : ∀ (wx : World) (b1 : Nat), (fun wx => EBox wx g0 e0 ∧ Below X.heap.size X wx) wx → EBox wx b1 zeroD → X.heap.size ≤ b1 → wpAnyH Try.prog .any keysOps (NoPanic Q) (fun wx => EBox wx g0 e0 ∧ Below X.heap.size X wx) 5 #[true, false, true, false, false, true, false, false] (keysAct s0 (.pointer (some ⟨g0, 0, none⟩)) s2 s17 s18 undef (.pointer (some ⟨b1, 0, none⟩)) (.agg e0.cells) undef (.agg e0.cells) undef) wx := by
    intro wx b1 hS x1 r1
    refine wpAnyH_ready (rs := [1, 4]) (by kernel_rfl) (by simp) ?_
    refine AllReadyH.cons (o := { dst := some 20, op := Op.call { callee := Callee.value (Operand.func 19), args := #[Operand.tmp 19], argTypes := #[35] }, type := 35, pos := "law.go:121", after := #[{ on := 0, ground := Ground.data }], guard := none }) rfl (fun K hK => ?_) ?_
    · rw [if_pos (by rfl)]
      refine wp_call_entry (entry_any ((HK.out.1).later (hS.2))) rfl ?_
      rintro r w' ⟨D0, rfl, qN, lN, hb⟩
      refine ⟨_, rfl, hK.out _ _ ?_ (fun hS' => ?_)⟩
      · exact ⟨(hS.1).later (hb), (hS.2).trans ((hb).mono (hS.2).size)⟩
      · exact st1_2 w' b1 D0 hS' (x1.later (hb)) r1 (lN.mono (hS.2).size) qN
    refine AllReadyH.cons (o := { dst := some 3, op := Op.alloc 35, type := 0, pos := "law.go:121", after := #[], guard := none }) rfl (fun K hK => ?_) ?_
    · rw [if_pos (by rfl)]
      refine wp_alloc_entry ?_
      refine hK.out _ _ ?_ (fun hS' => ?_)
      · exact ⟨(hS.1).later ((Below.refl wx.heap.size wx).alloc (Nat.le_refl _) (.cells zeroD.cells 35)), (hS.2).trans (((Below.refl wx.heap.size wx).alloc (Nat.le_refl _) (.cells zeroD.cells 35)).mono (hS.2).size)⟩
      · exact st0_3 _ wx.heap.size b1 hS' (EBox.new wx zeroD) (x1.later ((Below.refl wx.heap.size wx).alloc (Nat.le_refl _) (.cells zeroD.cells 35))) (Ne.symm (ebox_ne x1)) (hS.2).size r1
    exact AllReadyH.nil
  have st0_0 : ∀ (wx : World), (fun wx => EBox wx g0 e0 ∧ Below X.heap.size X wx) wx → wpAnyH Try.prog .any keysOps (NoPanic Q) (fun wx => EBox wx g0 e0 ∧ Below X.heap.size X wx) 6 #[true, false, true, false, false, false, false, false] (keysAct s0 (.pointer (some ⟨g0, 0, none⟩)) s2 s17 s18 undef undef (.agg e0.cells) undef (.agg e0.cells) undef) wx := by
    intro wx hS
    refine wpAnyH_ready (rs := [1, 4, 5]) (by kernel_rfl) (by simp) ?_
    refine AllReadyH.cons (o := { dst := some 20, op := Op.call { callee := Callee.value (Operand.func 19), args := #[Operand.tmp 19], argTypes := #[35] }, type := 35, pos := "law.go:121", after := #[{ on := 0, ground := Ground.data }], guard := none }) rfl (fun K hK => ?_) ?_
    · rw [if_pos (by rfl)]
      refine wp_call_entry (entry_any ((HK.out.1).later (hS.2))) rfl ?_
      rintro r w' ⟨D0, rfl, qN, lN, hb⟩
      refine ⟨_, rfl, hK.out _ _ ?_ (fun hS' => ?_)⟩
      · exact ⟨(hS.1).later (hb), (hS.2).trans ((hb).mono (hS.2).size)⟩
      · exact st1_0 w' D0 hS' (lN.mono (hS.2).size) qN
    refine AllReadyH.cons (o := { dst := some 3, op := Op.alloc 35, type := 0, pos := "law.go:121", after := #[], guard := none }) rfl (fun K hK => ?_) ?_
    · rw [if_pos (by rfl)]
      refine wp_alloc_entry ?_
      refine hK.out _ _ ?_ (fun hS' => ?_)
      · exact ⟨(hS.1).later ((Below.refl wx.heap.size wx).alloc (Nat.le_refl _) (.cells zeroD.cells 35)), (hS.2).trans (((Below.refl wx.heap.size wx).alloc (Nat.le_refl _) (.cells zeroD.cells 35)).mono (hS.2).size)⟩
      · exact st0_1 _ wx.heap.size hS' (EBox.new wx zeroD) (hS.2).size
    refine AllReadyH.cons (o := { dst := some 4, op := Op.alloc 35, type := 0, pos := "law.go:121", after := #[], guard := none }) rfl (fun K hK => ?_) ?_
    · rw [if_pos (by rfl)]
      refine wp_alloc_entry ?_
      refine hK.out _ _ ?_ (fun hS' => ?_)
      · exact ⟨(hS.1).later ((Below.refl wx.heap.size wx).alloc (Nat.le_refl _) (.cells zeroD.cells 35)), (hS.2).trans (((Below.refl wx.heap.size wx).alloc (Nat.le_refl _) (.cells zeroD.cells 35)).mono (hS.2).size)⟩
      · exact st0_2 _ wx.heap.size hS' (EBox.new wx zeroD) (hS.2).size
    exact AllReadyH.nil
  refine wp_region_held_drew (S := (fun wx => EBox wx g0 e0 ∧ Below X.heap.size X wx)) (by kernel_rfl) ⟨HB.out.1.later XD, XD⟩ (fun hS => ?_)
  refine wpAnyH_take (i := 0) (oi := { dst := some 19, op := Op.load 35 (Operand.tmp 1), type := 35, pos := "law.go:121", after := #[], guard := none }) (v := .agg e0.cells) rfl (by kernel_rfl) (by kernel_rfl) (by kernel_rfl) (fun _ _ _ h => h) (Or.inl ⟨by rfl, fun w hw => load_entry (hw.1) rfl⟩) hS ?_
  refine wpAnyH_take (i := 2) (oi := { dst := some 21, op := Op.load 35 (Operand.tmp 1), type := 35, pos := "law.go:121", after := #[], guard := none }) (v := .agg e0.cells) rfl (by kernel_rfl) (by kernel_rfl) (by kernel_rfl) (fun _ _ _ h => h) (Or.inl ⟨by rfl, fun w hw => load_entry (hw.1) rfl⟩) hS ?_
  exact st0_0 _ hS
end Go.Proofs.Ytjcpjpjccoeakaa
