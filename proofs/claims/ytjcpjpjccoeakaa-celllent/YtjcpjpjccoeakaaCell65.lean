import Derived.Test.YtjcpjpjccoeakaaJ31
namespace Go.Proofs.Ytjcpjpjccoeakaa
open Go.RowKit
set_option linter.unusedVariables false

def again1Ops : Array Oper := #[{ dst := some 27, op := Op.move (Operand.tmp 0), type := 33, pos := "again.go:128", after := #[], guard := none }, { dst := some 28, op := Op.call { callee := Callee.value (Operand.func 30), args := #[Operand.tmp 27, Operand.const (Value.int IntKind.i64 5000)], argTypes := #[33, 3] }, type := 33, pos := "again.go:128", after := #[{ on := 0, ground := Ground.data }], guard := none }, { dst := some 29, op := Op.load 35 (Operand.tmp 6), type := 35, pos := "again.go:128", after := #[], guard := none }, { dst := some 30, op := Op.call { callee := Callee.value (Operand.func 19), args := #[Operand.tmp 29], argTypes := #[35] }, type := 35, pos := "again.go:128", after := #[{ on := 2, ground := Ground.data }, { on := 1, ground := Ground.chain }], guard := none }, { dst := some 31, op := Op.load 35 (Operand.tmp 7), type := 35, pos := "again.go:128", after := #[], guard := none }, { dst := some 32, op := Op.call { callee := Callee.value (Operand.func 19), args := #[Operand.tmp 31], argTypes := #[35] }, type := 35, pos := "again.go:128", after := #[{ on := 4, ground := Ground.data }, { on := 3, ground := Ground.chain }], guard := none }, { dst := some 12, op := Op.alloc 35, type := 0, pos := "again.go:128", after := #[], guard := none }, { dst := some 13, op := Op.alloc 35, type := 0, pos := "again.go:128", after := #[], guard := none }, { dst := some 11, op := Op.assign (Operand.tmp 28), type := 33, pos := "again.go:128", after := #[{ on := 1, ground := Ground.data }, { on := 5, ground := Ground.chain }, { on := 0, ground := Ground.phase }, { on := 1, ground := Ground.phase }, { on := 2, ground := Ground.textOnly Departure.lateStores }, { on := 3, ground := Ground.textOnly Departure.lateStoresUnsure }, { on := 4, ground := Ground.textOnly Departure.lateStores }, { on := 5, ground := Ground.textOnly Departure.lateStoresUnsure }, { on := 6, ground := Ground.phase }, { on := 7, ground := Ground.phase }], guard := none }, { dst := none, op := Op.store 35 (Operand.tmp 12) (Operand.tmp 30), type := 0, pos := "again.go:128", after := #[{ on := 6, ground := Ground.data }, { on := 3, ground := Ground.data }, { on := 8, ground := Ground.chain }, { on := 0, ground := Ground.phase }, { on := 1, ground := Ground.phase }, { on := 2, ground := Ground.phase }, { on := 3, ground := Ground.phase }, { on := 4, ground := Ground.textOnly Departure.lateStores }, { on := 5, ground := Ground.textOnly Departure.lateStoresUnsure }, { on := 6, ground := Ground.phase }, { on := 7, ground := Ground.phase }, { on := 8, ground := Ground.phase }], guard := none }, { dst := none, op := Op.store 35 (Operand.tmp 13) (Operand.tmp 32), type := 0, pos := "again.go:128", after := #[{ on := 7, ground := Ground.data }, { on := 5, ground := Ground.data }, { on := 9, ground := Ground.chain }, { on := 0, ground := Ground.phase }, { on := 1, ground := Ground.phase }, { on := 2, ground := Ground.phase }, { on := 3, ground := Ground.phase }, { on := 4, ground := Ground.phase }, { on := 5, ground := Ground.phase }, { on := 6, ground := Ground.phase }, { on := 7, ground := Ground.phase }, { on := 8, ground := Ground.phase }, { on := 9, ground := Ground.phase }], guard := none }]
def again1Act (s0 s1 s2 s3 s4 s6 s7 s10 v11 v12 v13 v27 v28 v29 v30 v31 v32 : Value) : Act := ⟨#[s0, s1, s2, s3, s4, undef, s6, s7, undef, undef, s10, v11, v12, v13, undef, undef, undef, undef, undef, undef, undef, undef, undef, undef, undef, undef, undef, v27, v28, v29, v30, v31, v32, undef, undef, undef, undef, undef, undef, undef, undef, undef, undef, undef, undef, undef, undef, undef, undef, undef, undef, undef, undef, undef, undef, undef, undef, undef, undef, undef, undef, undef, undef, undef, undef, undef, undef, undef, undef, undef, undef, undef, undef, undef, undef, undef, undef, undef, undef, undef, undef, undef, undef, undef, undef, undef, undef, undef, undef, undef, undef, undef, undef, undef, undef, undef, undef, undef, undef, undef, undef, undef, undef, undef, undef, undef, undef, undef, undef, undef, undef, undef, undef, undef, undef, undef, undef, undef, undef, undef, undef, undef, undef, undef, undef, undef, undef, undef, undef, undef, undef, undef], []⟩

set_option maxRecDepth 100000 in
set_option maxHeartbeats 8000000 in
theorem again1_region {e0 e1 : EntD} {g0 g1 : Nat} {ba : Option Addr} {bn bc : Nat} {bs : List Nat} {X : World} (hr : Rd X (.slice ba bn bc) bs) (h47 : bs.length ≤ 140737488355328) (h0 : EBox X g0 e0) (k0 : EntD.Ok X e0) (h1 : EBox X g1 e1) (k1 : EntD.Ok X e1) {s1 s2 s3 s4 s10 : Value} (Q : Exit → Act → World → Prop)
    (hQ : Hid (∀ (b0 : Nat) (b1 : Nat) (u0 : Value) (t0 : Nat) (D1 : EntD) (t1 : Nat) (D2 : EntD) (t2 : Nat) (wF : World), EBox wF b0 D1 → EBox wF b1 D2 → b0 ≠ b1 → X.heap.size ≤ b0 → X.heap.size ≤ b1 → Laid wF X.heap.size u0 (bs.take 5000) → (∀ g, (u0).ownBlock = some g → X.heap.size ≤ g ∧ g < t0) → t0 ≤ wF.heap.size → LaidE wF X.heap.size D1 → Within D1 t0 t1 → EntD.Same D1 e0.cut → ApE D1 → t1 ≤ wF.heap.size → LaidE wF X.heap.size D2 → Within D2 t1 t2 → EntD.Same D2 e1.cut → ApE D2 → t2 ≤ wF.heap.size → Below X.heap.size X wF → Q .normal (again1Act (.slice ba bn bc) s1 s2 s3 s4 (.pointer (some ⟨g0, 0, none⟩)) (.pointer (some ⟨g1, 0, none⟩)) s10 u0 (.pointer (some ⟨b0, 0, none⟩)) (.pointer (some ⟨b1, 0, none⟩)) (.slice ba bn bc) u0 (.agg e0.cells) (.agg D1.cells) (.agg e1.cells) (.agg D2.cells)) wF)) :
    Code.wp Try.prog (Code.region 1 again1Ops true) Q (again1Act (.slice ba bn bc) s1 s2 s3 s4 (.pointer (some ⟨g0, 0, none⟩)) (.pointer (some ⟨g1, 0, none⟩)) s10 undef undef undef undef undef undef undef undef undef) X := by
  have HK : Hid (EntD.Ok X e0 ∧ EntD.Ok X e1 ∧ True) := ⟨k0, k1, trivial⟩
  have HR : Hid (Rd X (.slice ba bn bc) bs ∧ bs.length ≤ 140737488355328) := ⟨hr, h47⟩
  have XD : Below X.heap.size X X.drew := (Below.refl _ _).drew
  have HB : Hid (EBox X g0 e0 ∧ EBox X g1 e1 ∧ True) := ⟨h0, h1, trivial⟩
  clear h0 k0 h1 k1 hr h47
  refine wp_region_noPanic ?_
  have st3_3 : ∀ (wx : World) (b0 : Nat) (b1 : Nat) (u0 : Value) (t0 : Nat) (D1 : EntD) (t1 : Nat) (D2 : EntD) (t2 : Nat), (fun wx => EBox wx g0 e0 ∧ EBox wx g1 e1 ∧ Below X.heap.size X wx) wx → EBox wx b0 zeroD → EBox wx b1 zeroD → b0 ≠ b1 → X.heap.size ≤ b0 → X.heap.size ≤ b1 → Laid wx X.heap.size u0 (bs.take 5000) → (∀ g, (u0).ownBlock = some g → X.heap.size ≤ g ∧ g < t0) → t0 ≤ wx.heap.size → LaidE wx X.heap.size D1 → Within D1 t0 t1 → EntD.Same D1 e0.cut → ApE D1 → t1 ≤ wx.heap.size → LaidE wx X.heap.size D2 → Within D2 t1 t2 → EntD.Same D2 e1.cut → ApE D2 → t2 ≤ wx.heap.size → wpAnyH Try.prog .any again1Ops (NoPanic Q) (fun wx => EBox wx g0 e0 ∧ EBox wx g1 e1 ∧ Below X.heap.size X wx) 3 #[true, true, true, true, true, true, true, true, false, false, false] (again1Act (.slice ba bn bc) s1 s2 s3 s4 (.pointer (some ⟨g0, 0, none⟩)) (.pointer (some ⟨g1, 0, none⟩)) s10 undef (.pointer (some ⟨b0, 0, none⟩)) (.pointer (some ⟨b1, 0, none⟩)) (.slice ba bn bc) u0 (.agg e0.cells) (.agg D1.cells) (.agg e1.cells) (.agg D2.cells)) wx := by
    intro wx b0 b1 u0 t0 D1 t1 D2 t2 hS x0 x1 n01 r0 r1 f0 p0 m0 f1 p1 q1 a1 m1 f2 p2 q2 a2 m2
    refine wpAnyH_ready (rs := [8]) (by kernel_rfl) (by simp) ?_
    refine AllReadyH.cons (o := { dst := some 11, op := Op.assign (Operand.tmp 28), type := 33, pos := "again.go:128", after := #[{ on := 1, ground := Ground.data }, { on := 5, ground := Ground.chain }, { on := 0, ground := Ground.phase }, { on := 1, ground := Ground.phase }, { on := 2, ground := Ground.textOnly Departure.lateStores }, { on := 3, ground := Ground.textOnly Departure.lateStoresUnsure }, { on := 4, ground := Ground.textOnly Departure.lateStores }, { on := 5, ground := Ground.textOnly Departure.lateStoresUnsure }, { on := 6, ground := Ground.phase }, { on := 7, ground := Ground.phase }], guard := none }) rfl (fun K hK => ?_) AllReadyH.nil
    rw [if_pos (by rfl)]
    refine wp_assign_tmp (v := u0) rfl ?_
    refine hK.out _ _ ?_ (fun hS' => ?_)
    · exact ⟨hS.1, hS.2.1, (hS.2.2)⟩
    refine wpAnyH_ready (rs := [9]) (by kernel_rfl) (by simp) ?_
    refine AllReadyH.cons (o := { dst := none, op := Op.store 35 (Operand.tmp 12) (Operand.tmp 30), type := 0, pos := "again.go:128", after := #[{ on := 6, ground := Ground.data }, { on := 3, ground := Ground.data }, { on := 8, ground := Ground.chain }, { on := 0, ground := Ground.phase }, { on := 1, ground := Ground.phase }, { on := 2, ground := Ground.phase }, { on := 3, ground := Ground.phase }, { on := 4, ground := Ground.textOnly Departure.lateStores }, { on := 5, ground := Ground.textOnly Departure.lateStoresUnsure }, { on := 6, ground := Ground.phase }, { on := 7, ground := Ground.phase }, { on := 8, ground := Ground.phase }], guard := none }) rfl (fun K hK => ?_) AllReadyH.nil
    rw [if_pos (by rfl)]
    have y0 : EBox wx b0 zeroD := x0
    refine wp_store_entry y0 f1 rfl rfl ?_
    refine hK.out _ _ ?_ (fun hS' => ?_)
    · exact ⟨(hS.1.apart (filled_apart _ b0 D1) (ne_of_lt_le (ebox_lt HB.out.1) r0)), (hS.2.1.apart (filled_apart _ b0 D1) (ne_of_lt_le (ebox_lt HB.out.2.1) r0)), ((hS.2.2).trans ((filled_apart _ b0 D1).below r0 (hS.2.2).size))⟩
    refine wpAnyH_ready (rs := [10]) (by kernel_rfl) (by simp) ?_
    refine AllReadyH.cons (o := { dst := none, op := Op.store 35 (Operand.tmp 13) (Operand.tmp 32), type := 0, pos := "again.go:128", after := #[{ on := 7, ground := Ground.data }, { on := 5, ground := Ground.data }, { on := 9, ground := Ground.chain }, { on := 0, ground := Ground.phase }, { on := 1, ground := Ground.phase }, { on := 2, ground := Ground.phase }, { on := 3, ground := Ground.phase }, { on := 4, ground := Ground.phase }, { on := 5, ground := Ground.phase }, { on := 6, ground := Ground.phase }, { on := 7, ground := Ground.phase }, { on := 8, ground := Ground.phase }, { on := 9, ground := Ground.phase }], guard := none }) rfl (fun K hK => ?_) AllReadyH.nil
    rw [if_pos (by rfl)]
    have y1 : EBox (filled wx b0 D1) b1 zeroD := (x1.apart (filled_apart _ b0 D1) (Ne.symm n01))
    refine wp_store_entry y1 f2 rfl rfl ?_
    refine hK.out _ _ ?_ (fun hS' => ?_)
    · exact ⟨((hS.1.apart (filled_apart _ b0 D1) (ne_of_lt_le (ebox_lt HB.out.1) r0)).apart (filled_apart _ b1 D2) (ne_of_lt_le (ebox_lt HB.out.1) r1)), ((hS.2.1.apart (filled_apart _ b0 D1) (ne_of_lt_le (ebox_lt HB.out.2.1) r0)).apart (filled_apart _ b1 D2) (ne_of_lt_le (ebox_lt HB.out.2.1) r1)), (((hS.2.2).trans ((filled_apart _ b0 D1).below r0 (hS.2.2).size)).trans ((filled_apart _ b1 D2).below r1 ((hS.2.2).trans ((filled_apart _ b0 D1).below r0 (hS.2.2).size)).size))⟩
    refine wpAnyH_done (by kernel_rfl) ?_ _
    exact NoPanic.normal (hQ.out b0 b1 u0 t0 D1 t1 D2 t2 _ ((filled_box y0 D1).apart (filled_apart _ b1 D2) n01) (filled_box y1 D2) n01 r0 r1 ((f0.fillB (E := D1) y0).fillB (E := D2) y1) p0 (Nat.le_trans (Nat.le_trans m0 (filled_apart _ b0 D1).size) (filled_apart _ b1 D2).size) ((f1.fillE (E := D1) y0).fillE (E := D2) y1) p1 q1 a1 (Nat.le_trans (Nat.le_trans m1 (filled_apart _ b0 D1).size) (filled_apart _ b1 D2).size) ((f2.fillE (E := D1) y0).fillE (E := D2) y1) p2 q2 a2 (Nat.le_trans (Nat.le_trans m2 (filled_apart _ b0 D1).size) (filled_apart _ b1 D2).size) (((hS.2.2).trans ((filled_apart _ b0 D1).below r0 (hS.2.2).size)).trans ((filled_apart _ b1 D2).below r1 ((hS.2.2).trans ((filled_apart _ b0 D1).below r0 (hS.2.2).size)).size)))
  have st3_1 : ∀ (wx : World) (b0 : Nat) (u0 : Value) (t0 : Nat) (D1 : EntD) (t1 : Nat) (D2 : EntD) (t2 : Nat), (fun wx => EBox wx g0 e0 ∧ EBox wx g1 e1 ∧ Below X.heap.size X wx) wx → EBox wx b0 zeroD → X.heap.size ≤ b0 → Laid wx X.heap.size u0 (bs.take 5000) → (∀ g, (u0).ownBlock = some g → X.heap.size ≤ g ∧ g < t0) → t0 ≤ wx.heap.size → LaidE wx X.heap.size D1 → Within D1 t0 t1 → EntD.Same D1 e0.cut → ApE D1 → t1 ≤ wx.heap.size → LaidE wx X.heap.size D2 → Within D2 t1 t2 → EntD.Same D2 e1.cut → ApE D2 → t2 ≤ wx.heap.size → wpAnyH Try.prog .any again1Ops (NoPanic Q) (fun wx => EBox wx g0 e0 ∧ EBox wx g1 e1 ∧ Below X.heap.size X wx) 4 #[true, true, true, true, true, true, true, false, false, false, false] (again1Act (.slice ba bn bc) s1 s2 s3 s4 (.pointer (some ⟨g0, 0, none⟩)) (.pointer (some ⟨g1, 0, none⟩)) s10 undef (.pointer (some ⟨b0, 0, none⟩)) undef (.slice ba bn bc) u0 (.agg e0.cells) (.agg D1.cells) (.agg e1.cells) (.agg D2.cells)) wx := by
    intro wx b0 u0 t0 D1 t1 D2 t2 hS x0 r0 f0 p0 m0 f1 p1 q1 a1 m1 f2 p2 q2 a2 m2
    refine wpAnyH_ready (rs := [7]) (by kernel_rfl) (by simp) ?_
    refine AllReadyH.cons (o := { dst := some 13, op := Op.alloc 35, type := 0, pos := "again.go:128", after := #[], guard := none }) rfl (fun K hK => ?_) ?_
    · rw [if_pos (by rfl)]
      refine wp_alloc_entry ?_
      refine hK.out _ _ ?_ (fun hS' => ?_)
      · exact ⟨(hS.1).later ((Below.refl wx.heap.size wx).alloc (Nat.le_refl _) (.cells zeroD.cells 35)), (hS.2.1).later ((Below.refl wx.heap.size wx).alloc (Nat.le_refl _) (.cells zeroD.cells 35)), (hS.2.2).trans (((Below.refl wx.heap.size wx).alloc (Nat.le_refl _) (.cells zeroD.cells 35)).mono (hS.2.2).size)⟩
      · exact st3_3 _ b0 wx.heap.size u0 t0 D1 t1 D2 t2 hS' (x0.later ((Below.refl wx.heap.size wx).alloc (Nat.le_refl _) (.cells zeroD.cells 35))) (EBox.new wx zeroD) (ebox_ne x0) r0 (hS.2.2).size (f0.later ((Below.refl wx.heap.size wx).alloc (Nat.le_refl _) (.cells zeroD.cells 35))) p0 (Nat.le_trans m0 ((Below.refl wx.heap.size wx).alloc (Nat.le_refl _) (.cells zeroD.cells 35)).size) (f1.later ((Below.refl wx.heap.size wx).alloc (Nat.le_refl _) (.cells zeroD.cells 35))) p1 q1 a1 (Nat.le_trans m1 ((Below.refl wx.heap.size wx).alloc (Nat.le_refl _) (.cells zeroD.cells 35)).size) (f2.later ((Below.refl wx.heap.size wx).alloc (Nat.le_refl _) (.cells zeroD.cells 35))) p2 q2 a2 (Nat.le_trans m2 ((Below.refl wx.heap.size wx).alloc (Nat.le_refl _) (.cells zeroD.cells 35)).size)
    exact AllReadyH.nil
  have st3_2 : ∀ (wx : World) (b1 : Nat) (u0 : Value) (t0 : Nat) (D1 : EntD) (t1 : Nat) (D2 : EntD) (t2 : Nat), (fun wx => EBox wx g0 e0 ∧ EBox wx g1 e1 ∧ Below X.heap.size X wx) wx → EBox wx b1 zeroD → X.heap.size ≤ b1 → Laid wx X.heap.size u0 (bs.take 5000) → (∀ g, (u0).ownBlock = some g → X.heap.size ≤ g ∧ g < t0) → t0 ≤ wx.heap.size → LaidE wx X.heap.size D1 → Within D1 t0 t1 → EntD.Same D1 e0.cut → ApE D1 → t1 ≤ wx.heap.size → LaidE wx X.heap.size D2 → Within D2 t1 t2 → EntD.Same D2 e1.cut → ApE D2 → t2 ≤ wx.heap.size → wpAnyH Try.prog .any again1Ops (NoPanic Q) (fun wx => EBox wx g0 e0 ∧ EBox wx g1 e1 ∧ Below X.heap.size X wx) 4 #[true, true, true, true, true, true, false, true, false, false, false] (again1Act (.slice ba bn bc) s1 s2 s3 s4 (.pointer (some ⟨g0, 0, none⟩)) (.pointer (some ⟨g1, 0, none⟩)) s10 undef undef (.pointer (some ⟨b1, 0, none⟩)) (.slice ba bn bc) u0 (.agg e0.cells) (.agg D1.cells) (.agg e1.cells) (.agg D2.cells)) wx := by
    intro wx b1 u0 t0 D1 t1 D2 t2 hS x1 r1 f0 p0 m0 f1 p1 q1 a1 m1 f2 p2 q2 a2 m2
    refine wpAnyH_ready (rs := [6]) (by kernel_rfl) (by simp) ?_
    refine AllReadyH.cons (o := { dst := some 12, op := Op.alloc 35, type := 0, pos := "again.go:128", after := #[], guard := none }) rfl (fun K hK => ?_) ?_
    · rw [if_pos (by rfl)]
      refine wp_alloc_entry ?_
      refine hK.out _ _ ?_ (fun hS' => ?_)
      · exact ⟨(hS.1).later ((Below.refl wx.heap.size wx).alloc (Nat.le_refl _) (.cells zeroD.cells 35)), (hS.2.1).later ((Below.refl wx.heap.size wx).alloc (Nat.le_refl _) (.cells zeroD.cells 35)), (hS.2.2).trans (((Below.refl wx.heap.size wx).alloc (Nat.le_refl _) (.cells zeroD.cells 35)).mono (hS.2.2).size)⟩
      · exact st3_3 _ wx.heap.size b1 u0 t0 D1 t1 D2 t2 hS' (EBox.new wx zeroD) (x1.later ((Below.refl wx.heap.size wx).alloc (Nat.le_refl _) (.cells zeroD.cells 35))) (Ne.symm (ebox_ne x1)) (hS.2.2).size r1 (f0.later ((Below.refl wx.heap.size wx).alloc (Nat.le_refl _) (.cells zeroD.cells 35))) p0 (Nat.le_trans m0 ((Below.refl wx.heap.size wx).alloc (Nat.le_refl _) (.cells zeroD.cells 35)).size) (f1.later ((Below.refl wx.heap.size wx).alloc (Nat.le_refl _) (.cells zeroD.cells 35))) p1 q1 a1 (Nat.le_trans m1 ((Below.refl wx.heap.size wx).alloc (Nat.le_refl _) (.cells zeroD.cells 35)).size) (f2.later ((Below.refl wx.heap.size wx).alloc (Nat.le_refl _) (.cells zeroD.cells 35))) p2 q2 a2 (Nat.le_trans m2 ((Below.refl wx.heap.size wx).alloc (Nat.le_refl _) (.cells zeroD.cells 35)).size)
    exact AllReadyH.nil
  have st3_0 : ∀ (wx : World) (u0 : Value) (t0 : Nat) (D1 : EntD) (t1 : Nat) (D2 : EntD) (t2 : Nat), (fun wx => EBox wx g0 e0 ∧ EBox wx g1 e1 ∧ Below X.heap.size X wx) wx → Laid wx X.heap.size u0 (bs.take 5000) → (∀ g, (u0).ownBlock = some g → X.heap.size ≤ g ∧ g < t0) → t0 ≤ wx.heap.size → LaidE wx X.heap.size D1 → Within D1 t0 t1 → EntD.Same D1 e0.cut → ApE D1 → t1 ≤ wx.heap.size → LaidE wx X.heap.size D2 → Within D2 t1 t2 → EntD.Same D2 e1.cut → ApE D2 → t2 ≤ wx.heap.size → wpAnyH Try.prog .any again1Ops (NoPanic Q) (fun wx => EBox wx g0 e0 ∧ EBox wx g1 e1 ∧ Below X.heap.size X wx) 5 #[true, true, true, true, true, true, false, false, false, false, false] (again1Act (.slice ba bn bc) s1 s2 s3 s4 (.pointer (some ⟨g0, 0, none⟩)) (.pointer (some ⟨g1, 0, none⟩)) s10 undef undef undef (.slice ba bn bc) u0 (.agg e0.cells) (.agg D1.cells) (.agg e1.cells) (.agg D2.cells)) wx := by
    intro wx u0 t0 D1 t1 D2 t2 hS f0 p0 m0 f1 p1 q1 a1 m1 f2 p2 q2 a2 m2
    refine wpAnyH_ready (rs := [6, 7]) (by kernel_rfl) (by simp) ?_
    refine AllReadyH.cons (o := { dst := some 12, op := Op.alloc 35, type := 0, pos := "again.go:128", after := #[], guard := none }) rfl (fun K hK => ?_) ?_
    · rw [if_pos (by rfl)]
      refine wp_alloc_entry ?_
      refine hK.out _ _ ?_ (fun hS' => ?_)
      · exact ⟨(hS.1).later ((Below.refl wx.heap.size wx).alloc (Nat.le_refl _) (.cells zeroD.cells 35)), (hS.2.1).later ((Below.refl wx.heap.size wx).alloc (Nat.le_refl _) (.cells zeroD.cells 35)), (hS.2.2).trans (((Below.refl wx.heap.size wx).alloc (Nat.le_refl _) (.cells zeroD.cells 35)).mono (hS.2.2).size)⟩
      · exact st3_1 _ wx.heap.size u0 t0 D1 t1 D2 t2 hS' (EBox.new wx zeroD) (hS.2.2).size (f0.later ((Below.refl wx.heap.size wx).alloc (Nat.le_refl _) (.cells zeroD.cells 35))) p0 (Nat.le_trans m0 ((Below.refl wx.heap.size wx).alloc (Nat.le_refl _) (.cells zeroD.cells 35)).size) (f1.later ((Below.refl wx.heap.size wx).alloc (Nat.le_refl _) (.cells zeroD.cells 35))) p1 q1 a1 (Nat.le_trans m1 ((Below.refl wx.heap.size wx).alloc (Nat.le_refl _) (.cells zeroD.cells 35)).size) (f2.later ((Below.refl wx.heap.size wx).alloc (Nat.le_refl _) (.cells zeroD.cells 35))) p2 q2 a2 (Nat.le_trans m2 ((Below.refl wx.heap.size wx).alloc (Nat.le_refl _) (.cells zeroD.cells 35)).size)
    refine AllReadyH.cons (o := { dst := some 13, op := Op.alloc 35, type := 0, pos := "again.go:128", after := #[], guard := none }) rfl (fun K hK => ?_) ?_
    · rw [if_pos (by rfl)]
      refine wp_alloc_entry ?_
      refine hK.out _ _ ?_ (fun hS' => ?_)
      · exact ⟨(hS.1).later ((Below.refl wx.heap.size wx).alloc (Nat.le_refl _) (.cells zeroD.cells 35)), (hS.2.1).later ((Below.refl wx.heap.size wx).alloc (Nat.le_refl _) (.cells zeroD.cells 35)), (hS.2.2).trans (((Below.refl wx.heap.size wx).alloc (Nat.le_refl _) (.cells zeroD.cells 35)).mono (hS.2.2).size)⟩
      · exact st3_2 _ wx.heap.size u0 t0 D1 t1 D2 t2 hS' (EBox.new wx zeroD) (hS.2.2).size (f0.later ((Below.refl wx.heap.size wx).alloc (Nat.le_refl _) (.cells zeroD.cells 35))) p0 (Nat.le_trans m0 ((Below.refl wx.heap.size wx).alloc (Nat.le_refl _) (.cells zeroD.cells 35)).size) (f1.later ((Below.refl wx.heap.size wx).alloc (Nat.le_refl _) (.cells zeroD.cells 35))) p1 q1 a1 (Nat.le_trans m1 ((Below.refl wx.heap.size wx).alloc (Nat.le_refl _) (.cells zeroD.cells 35)).size) (f2.later ((Below.refl wx.heap.size wx).alloc (Nat.le_refl _) (.cells zeroD.cells 35))) p2 q2 a2 (Nat.le_trans m2 ((Below.refl wx.heap.size wx).alloc (Nat.le_refl _) (.cells zeroD.cells 35)).size)
    exact AllReadyH.nil
  have st2_3 : ∀ (wx : World) (b0 : Nat) (b1 : Nat) (u0 : Value) (t0 : Nat) (D1 : EntD) (t1 : Nat), (fun wx => EBox wx g0 e0 ∧ EBox wx g1 e1 ∧ Below X.heap.size X wx) wx → EBox wx b0 zeroD → EBox wx b1 zeroD → b0 ≠ b1 → X.heap.size ≤ b0 → X.heap.size ≤ b1 → Laid wx X.heap.size u0 (bs.take 5000) → (∀ g, (u0).ownBlock = some g → X.heap.size ≤ g ∧ g < t0) → t0 ≤ wx.heap.size → LaidE wx X.heap.size D1 → Within D1 t0 t1 → EntD.Same D1 e0.cut → ApE D1 → t1 ≤ wx.heap.size → wpAnyH Try.prog .any again1Ops (NoPanic Q) (fun wx => EBox wx g0 e0 ∧ EBox wx g1 e1 ∧ Below X.heap.size X wx) 4 #[true, true, true, true, true, false, true, true, false, false, false] (again1Act (.slice ba bn bc) s1 s2 s3 s4 (.pointer (some ⟨g0, 0, none⟩)) (.pointer (some ⟨g1, 0, none⟩)) s10 undef (.pointer (some ⟨b0, 0, none⟩)) (.pointer (some ⟨b1, 0, none⟩)) (.slice ba bn bc) u0 (.agg e0.cells) (.agg D1.cells) (.agg e1.cells) undef) wx := by
    intro wx b0 b1 u0 t0 D1 t1 hS x0 x1 n01 r0 r1 f0 p0 m0 f1 p1 q1 a1 m1
    refine wpAnyH_ready (rs := [5]) (by kernel_rfl) (by simp) ?_
    refine AllReadyH.cons (o := { dst := some 32, op := Op.call { callee := Callee.value (Operand.func 19), args := #[Operand.tmp 31], argTypes := #[35] }, type := 35, pos := "again.go:128", after := #[{ on := 4, ground := Ground.data }, { on := 3, ground := Ground.chain }], guard := none }) rfl (fun K hK => ?_) ?_
    · rw [if_pos (by rfl)]
      refine wp_call_entry (entry_ap ((HK.out.2.1).later (hS.2.2))) rfl ?_
      rintro r w' ⟨D2, rfl, qN, lN, hb, aN⟩
      refine ⟨_, rfl, hK.out _ _ ?_ (fun hS' => ?_)⟩
      · exact ⟨(hS.1).later (hb), (hS.2.1).later (hb), (hS.2.2).trans ((hb).mono (hS.2.2).size)⟩
      · exact st3_3 w' b0 b1 u0 t0 D1 t1 D2 w'.heap.size hS' (x0.later (hb)) (x1.later (hb)) n01 r0 r1 (f0.later (hb)) p0 (Nat.le_trans m0 (hb).size) (f1.later (hb)) p1 q1 a1 (Nat.le_trans m1 (hb).size) (lN.mono (hS.2.2).size) (lN.within.from_ m1) qN aN (Nat.le_refl _)
    exact AllReadyH.nil
  have st2_1 : ∀ (wx : World) (b0 : Nat) (u0 : Value) (t0 : Nat) (D1 : EntD) (t1 : Nat), (fun wx => EBox wx g0 e0 ∧ EBox wx g1 e1 ∧ Below X.heap.size X wx) wx → EBox wx b0 zeroD → X.heap.size ≤ b0 → Laid wx X.heap.size u0 (bs.take 5000) → (∀ g, (u0).ownBlock = some g → X.heap.size ≤ g ∧ g < t0) → t0 ≤ wx.heap.size → LaidE wx X.heap.size D1 → Within D1 t0 t1 → EntD.Same D1 e0.cut → ApE D1 → t1 ≤ wx.heap.size → wpAnyH Try.prog .any again1Ops (NoPanic Q) (fun wx => EBox wx g0 e0 ∧ EBox wx g1 e1 ∧ Below X.heap.size X wx) 5 #[true, true, true, true, true, false, true, false, false, false, false] (again1Act (.slice ba bn bc) s1 s2 s3 s4 (.pointer (some ⟨g0, 0, none⟩)) (.pointer (some ⟨g1, 0, none⟩)) s10 undef (.pointer (some ⟨b0, 0, none⟩)) undef (.slice ba bn bc) u0 (.agg e0.cells) (.agg D1.cells) (.agg e1.cells) undef) wx := by
    intro wx b0 u0 t0 D1 t1 hS x0 r0 f0 p0 m0 f1 p1 q1 a1 m1
    refine wpAnyH_ready (rs := [5, 7]) (by kernel_rfl) (by simp) ?_
    refine AllReadyH.cons (o := { dst := some 32, op := Op.call { callee := Callee.value (Operand.func 19), args := #[Operand.tmp 31], argTypes := #[35] }, type := 35, pos := "again.go:128", after := #[{ on := 4, ground := Ground.data }, { on := 3, ground := Ground.chain }], guard := none }) rfl (fun K hK => ?_) ?_
    · rw [if_pos (by rfl)]
      refine wp_call_entry (entry_ap ((HK.out.2.1).later (hS.2.2))) rfl ?_
      rintro r w' ⟨D2, rfl, qN, lN, hb, aN⟩
      refine ⟨_, rfl, hK.out _ _ ?_ (fun hS' => ?_)⟩
      · exact ⟨(hS.1).later (hb), (hS.2.1).later (hb), (hS.2.2).trans ((hb).mono (hS.2.2).size)⟩
      · exact st3_1 w' b0 u0 t0 D1 t1 D2 w'.heap.size hS' (x0.later (hb)) r0 (f0.later (hb)) p0 (Nat.le_trans m0 (hb).size) (f1.later (hb)) p1 q1 a1 (Nat.le_trans m1 (hb).size) (lN.mono (hS.2.2).size) (lN.within.from_ m1) qN aN (Nat.le_refl _)
    refine AllReadyH.cons (o := { dst := some 13, op := Op.alloc 35, type := 0, pos := "again.go:128", after := #[], guard := none }) rfl (fun K hK => ?_) ?_
    · rw [if_pos (by rfl)]
      refine wp_alloc_entry ?_
      refine hK.out _ _ ?_ (fun hS' => ?_)
      · exact ⟨(hS.1).later ((Below.refl wx.heap.size wx).alloc (Nat.le_refl _) (.cells zeroD.cells 35)), (hS.2.1).later ((Below.refl wx.heap.size wx).alloc (Nat.le_refl _) (.cells zeroD.cells 35)), (hS.2.2).trans (((Below.refl wx.heap.size wx).alloc (Nat.le_refl _) (.cells zeroD.cells 35)).mono (hS.2.2).size)⟩
      · exact st2_3 _ b0 wx.heap.size u0 t0 D1 t1 hS' (x0.later ((Below.refl wx.heap.size wx).alloc (Nat.le_refl _) (.cells zeroD.cells 35))) (EBox.new wx zeroD) (ebox_ne x0) r0 (hS.2.2).size (f0.later ((Below.refl wx.heap.size wx).alloc (Nat.le_refl _) (.cells zeroD.cells 35))) p0 (Nat.le_trans m0 ((Below.refl wx.heap.size wx).alloc (Nat.le_refl _) (.cells zeroD.cells 35)).size) (f1.later ((Below.refl wx.heap.size wx).alloc (Nat.le_refl _) (.cells zeroD.cells 35))) p1 q1 a1 (Nat.le_trans m1 ((Below.refl wx.heap.size wx).alloc (Nat.le_refl _) (.cells zeroD.cells 35)).size)
    exact AllReadyH.nil
  have st2_2 : ∀ (wx : World) (b1 : Nat) (u0 : Value) (t0 : Nat) (D1 : EntD) (t1 : Nat), (fun wx => EBox wx g0 e0 ∧ EBox wx g1 e1 ∧ Below X.heap.size X wx) wx → EBox wx b1 zeroD → X.heap.size ≤ b1 → Laid wx X.heap.size u0 (bs.take 5000) → (∀ g, (u0).ownBlock = some g → X.heap.size ≤ g ∧ g < t0) → t0 ≤ wx.heap.size → LaidE wx X.heap.size D1 → Within D1 t0 t1 → EntD.Same D1 e0.cut → ApE D1 → t1 ≤ wx.heap.size → wpAnyH Try.prog .any again1Ops (NoPanic Q) (fun wx => EBox wx g0 e0 ∧ EBox wx g1 e1 ∧ Below X.heap.size X wx) 5 #[true, true, true, true, true, false, false, true, false, false, false] (again1Act (.slice ba bn bc) s1 s2 s3 s4 (.pointer (some ⟨g0, 0, none⟩)) (.pointer (some ⟨g1, 0, none⟩)) s10 undef undef (.pointer (some ⟨b1, 0, none⟩)) (.slice ba bn bc) u0 (.agg e0.cells) (.agg D1.cells) (.agg e1.cells) undef) wx := by
    intro wx b1 u0 t0 D1 t1 hS x1 r1 f0 p0 m0 f1 p1 q1 a1 m1
    refine wpAnyH_ready (rs := [5, 6]) (by kernel_rfl) (by simp) ?_
    refine AllReadyH.cons (o := { dst := some 32, op := Op.call { callee := Callee.value (Operand.func 19), args := #[Operand.tmp 31], argTypes := #[35] }, type := 35, pos := "again.go:128", after := #[{ on := 4, ground := Ground.data }, { on := 3, ground := Ground.chain }], guard := none }) rfl (fun K hK => ?_) ?_
    · rw [if_pos (by rfl)]
      refine wp_call_entry (entry_ap ((HK.out.2.1).later (hS.2.2))) rfl ?_
      rintro r w' ⟨D2, rfl, qN, lN, hb, aN⟩
      refine ⟨_, rfl, hK.out _ _ ?_ (fun hS' => ?_)⟩
      · exact ⟨(hS.1).later (hb), (hS.2.1).later (hb), (hS.2.2).trans ((hb).mono (hS.2.2).size)⟩
      · exact st3_2 w' b1 u0 t0 D1 t1 D2 w'.heap.size hS' (x1.later (hb)) r1 (f0.later (hb)) p0 (Nat.le_trans m0 (hb).size) (f1.later (hb)) p1 q1 a1 (Nat.le_trans m1 (hb).size) (lN.mono (hS.2.2).size) (lN.within.from_ m1) qN aN (Nat.le_refl _)
    refine AllReadyH.cons (o := { dst := some 12, op := Op.alloc 35, type := 0, pos := "again.go:128", after := #[], guard := none }) rfl (fun K hK => ?_) ?_
    · rw [if_pos (by rfl)]
      refine wp_alloc_entry ?_
      refine hK.out _ _ ?_ (fun hS' => ?_)
      · exact ⟨(hS.1).later ((Below.refl wx.heap.size wx).alloc (Nat.le_refl _) (.cells zeroD.cells 35)), (hS.2.1).later ((Below.refl wx.heap.size wx).alloc (Nat.le_refl _) (.cells zeroD.cells 35)), (hS.2.2).trans (((Below.refl wx.heap.size wx).alloc (Nat.le_refl _) (.cells zeroD.cells 35)).mono (hS.2.2).size)⟩
      · exact st2_3 _ wx.heap.size b1 u0 t0 D1 t1 hS' (EBox.new wx zeroD) (x1.later ((Below.refl wx.heap.size wx).alloc (Nat.le_refl _) (.cells zeroD.cells 35))) (Ne.symm (ebox_ne x1)) (hS.2.2).size r1 (f0.later ((Below.refl wx.heap.size wx).alloc (Nat.le_refl _) (.cells zeroD.cells 35))) p0 (Nat.le_trans m0 ((Below.refl wx.heap.size wx).alloc (Nat.le_refl _) (.cells zeroD.cells 35)).size) (f1.later ((Below.refl wx.heap.size wx).alloc (Nat.le_refl _) (.cells zeroD.cells 35))) p1 q1 a1 (Nat.le_trans m1 ((Below.refl wx.heap.size wx).alloc (Nat.le_refl _) (.cells zeroD.cells 35)).size)
    exact AllReadyH.nil
  have st2_0 : ∀ (wx : World) (u0 : Value) (t0 : Nat) (D1 : EntD) (t1 : Nat), (fun wx => EBox wx g0 e0 ∧ EBox wx g1 e1 ∧ Below X.heap.size X wx) wx → Laid wx X.heap.size u0 (bs.take 5000) → (∀ g, (u0).ownBlock = some g → X.heap.size ≤ g ∧ g < t0) → t0 ≤ wx.heap.size → LaidE wx X.heap.size D1 → Within D1 t0 t1 → EntD.Same D1 e0.cut → ApE D1 → t1 ≤ wx.heap.size → wpAnyH Try.prog .any again1Ops (NoPanic Q) (fun wx => EBox wx g0 e0 ∧ EBox wx g1 e1 ∧ Below X.heap.size X wx) 6 #[true, true, true, true, true, false, false, false, false, false, false] (again1Act (.slice ba bn bc) s1 s2 s3 s4 (.pointer (some ⟨g0, 0, none⟩)) (.pointer (some ⟨g1, 0, none⟩)) s10 undef undef undef (.slice ba bn bc) u0 (.agg e0.cells) (.agg D1.cells) (.agg e1.cells) undef) wx := by
    intro wx u0 t0 D1 t1 hS f0 p0 m0 f1 p1 q1 a1 m1
    refine wpAnyH_ready (rs := [5, 6, 7]) (by kernel_rfl) (by simp) ?_
    refine AllReadyH.cons (o := { dst := some 32, op := Op.call { callee := Callee.value (Operand.func 19), args := #[Operand.tmp 31], argTypes := #[35] }, type := 35, pos := "again.go:128", after := #[{ on := 4, ground := Ground.data }, { on := 3, ground := Ground.chain }], guard := none }) rfl (fun K hK => ?_) ?_
    · rw [if_pos (by rfl)]
      refine wp_call_entry (entry_ap ((HK.out.2.1).later (hS.2.2))) rfl ?_
      rintro r w' ⟨D2, rfl, qN, lN, hb, aN⟩
      refine ⟨_, rfl, hK.out _ _ ?_ (fun hS' => ?_)⟩
      · exact ⟨(hS.1).later (hb), (hS.2.1).later (hb), (hS.2.2).trans ((hb).mono (hS.2.2).size)⟩
      · exact st3_0 w' u0 t0 D1 t1 D2 w'.heap.size hS' (f0.later (hb)) p0 (Nat.le_trans m0 (hb).size) (f1.later (hb)) p1 q1 a1 (Nat.le_trans m1 (hb).size) (lN.mono (hS.2.2).size) (lN.within.from_ m1) qN aN (Nat.le_refl _)
    refine AllReadyH.cons (o := { dst := some 12, op := Op.alloc 35, type := 0, pos := "again.go:128", after := #[], guard := none }) rfl (fun K hK => ?_) ?_
    · rw [if_pos (by rfl)]
      refine wp_alloc_entry ?_
      refine hK.out _ _ ?_ (fun hS' => ?_)
      · exact ⟨(hS.1).later ((Below.refl wx.heap.size wx).alloc (Nat.le_refl _) (.cells zeroD.cells 35)), (hS.2.1).later ((Below.refl wx.heap.size wx).alloc (Nat.le_refl _) (.cells zeroD.cells 35)), (hS.2.2).trans (((Below.refl wx.heap.size wx).alloc (Nat.le_refl _) (.cells zeroD.cells 35)).mono (hS.2.2).size)⟩
      · exact st2_1 _ wx.heap.size u0 t0 D1 t1 hS' (EBox.new wx zeroD) (hS.2.2).size (f0.later ((Below.refl wx.heap.size wx).alloc (Nat.le_refl _) (.cells zeroD.cells 35))) p0 (Nat.le_trans m0 ((Below.refl wx.heap.size wx).alloc (Nat.le_refl _) (.cells zeroD.cells 35)).size) (f1.later ((Below.refl wx.heap.size wx).alloc (Nat.le_refl _) (.cells zeroD.cells 35))) p1 q1 a1 (Nat.le_trans m1 ((Below.refl wx.heap.size wx).alloc (Nat.le_refl _) (.cells zeroD.cells 35)).size)
    refine AllReadyH.cons (o := { dst := some 13, op := Op.alloc 35, type := 0, pos := "again.go:128", after := #[], guard := none }) rfl (fun K hK => ?_) ?_
    · rw [if_pos (by rfl)]
      refine wp_alloc_entry ?_
      refine hK.out _ _ ?_ (fun hS' => ?_)
      · exact ⟨(hS.1).later ((Below.refl wx.heap.size wx).alloc (Nat.le_refl _) (.cells zeroD.cells 35)), (hS.2.1).later ((Below.refl wx.heap.size wx).alloc (Nat.le_refl _) (.cells zeroD.cells 35)), (hS.2.2).trans (((Below.refl wx.heap.size wx).alloc (Nat.le_refl _) (.cells zeroD.cells 35)).mono (hS.2.2).size)⟩
      · exact st2_2 _ wx.heap.size u0 t0 D1 t1 hS' (EBox.new wx zeroD) (hS.2.2).size (f0.later ((Below.refl wx.heap.size wx).alloc (Nat.le_refl _) (.cells zeroD.cells 35))) p0 (Nat.le_trans m0 ((Below.refl wx.heap.size wx).alloc (Nat.le_refl _) (.cells zeroD.cells 35)).size) (f1.later ((Below.refl wx.heap.size wx).alloc (Nat.le_refl _) (.cells zeroD.cells 35))) p1 q1 a1 (Nat.le_trans m1 ((Below.refl wx.heap.size wx).alloc (Nat.le_refl _) (.cells zeroD.cells 35)).size)
    exact AllReadyH.nil
  have st1_3 : ∀ (wx : World) (b0 : Nat) (b1 : Nat) (u0 : Value) (t0 : Nat), (fun wx => EBox wx g0 e0 ∧ EBox wx g1 e1 ∧ Below X.heap.size X wx) wx → EBox wx b0 zeroD → EBox wx b1 zeroD → b0 ≠ b1 → X.heap.size ≤ b0 → X.heap.size ≤ b1 → Laid wx X.heap.size u0 (bs.take 5000) → (∀ g, (u0).ownBlock = some g → X.heap.size ≤ g ∧ g < t0) → t0 ≤ wx.heap.size → wpAnyH Try.prog .any again1Ops (NoPanic Q) (fun wx => EBox wx g0 e0 ∧ EBox wx g1 e1 ∧ Below X.heap.size X wx) 5 #[true, true, true, false, true, false, true, true, false, false, false] (again1Act (.slice ba bn bc) s1 s2 s3 s4 (.pointer (some ⟨g0, 0, none⟩)) (.pointer (some ⟨g1, 0, none⟩)) s10 undef (.pointer (some ⟨b0, 0, none⟩)) (.pointer (some ⟨b1, 0, none⟩)) (.slice ba bn bc) u0 (.agg e0.cells) undef (.agg e1.cells) undef) wx := by
    intro wx b0 b1 u0 t0 hS x0 x1 n01 r0 r1 f0 p0 m0
    refine wpAnyH_ready (rs := [3]) (by kernel_rfl) (by simp) ?_
    refine AllReadyH.cons (o := { dst := some 30, op := Op.call { callee := Callee.value (Operand.func 19), args := #[Operand.tmp 29], argTypes := #[35] }, type := 35, pos := "again.go:128", after := #[{ on := 2, ground := Ground.data }, { on := 1, ground := Ground.chain }], guard := none }) rfl (fun K hK => ?_) ?_
    · rw [if_pos (by rfl)]
      refine wp_call_entry (entry_ap ((HK.out.1).later (hS.2.2))) rfl ?_
      rintro r w' ⟨D1, rfl, qN, lN, hb, aN⟩
      refine ⟨_, rfl, hK.out _ _ ?_ (fun hS' => ?_)⟩
      · exact ⟨(hS.1).later (hb), (hS.2.1).later (hb), (hS.2.2).trans ((hb).mono (hS.2.2).size)⟩
      · exact st2_3 w' b0 b1 u0 t0 D1 w'.heap.size hS' (x0.later (hb)) (x1.later (hb)) n01 r0 r1 (f0.later (hb)) p0 (Nat.le_trans m0 (hb).size) (lN.mono (hS.2.2).size) (lN.within.from_ m0) qN aN (Nat.le_refl _)
    exact AllReadyH.nil
  have st1_1 : ∀ (wx : World) (b0 : Nat) (u0 : Value) (t0 : Nat), (fun wx => EBox wx g0 e0 ∧ EBox wx g1 e1 ∧ Below X.heap.size X wx) wx → EBox wx b0 zeroD → X.heap.size ≤ b0 → Laid wx X.heap.size u0 (bs.take 5000) → (∀ g, (u0).ownBlock = some g → X.heap.size ≤ g ∧ g < t0) → t0 ≤ wx.heap.size → wpAnyH Try.prog .any again1Ops (NoPanic Q) (fun wx => EBox wx g0 e0 ∧ EBox wx g1 e1 ∧ Below X.heap.size X wx) 6 #[true, true, true, false, true, false, true, false, false, false, false] (again1Act (.slice ba bn bc) s1 s2 s3 s4 (.pointer (some ⟨g0, 0, none⟩)) (.pointer (some ⟨g1, 0, none⟩)) s10 undef (.pointer (some ⟨b0, 0, none⟩)) undef (.slice ba bn bc) u0 (.agg e0.cells) undef (.agg e1.cells) undef) wx := by
    intro wx b0 u0 t0 hS x0 r0 f0 p0 m0
    refine wpAnyH_ready (rs := [3, 7]) (by kernel_rfl) (by simp) ?_
    refine AllReadyH.cons (o := { dst := some 30, op := Op.call { callee := Callee.value (Operand.func 19), args := #[Operand.tmp 29], argTypes := #[35] }, type := 35, pos := "again.go:128", after := #[{ on := 2, ground := Ground.data }, { on := 1, ground := Ground.chain }], guard := none }) rfl (fun K hK => ?_) ?_
    · rw [if_pos (by rfl)]
      refine wp_call_entry (entry_ap ((HK.out.1).later (hS.2.2))) rfl ?_
      rintro r w' ⟨D1, rfl, qN, lN, hb, aN⟩
      refine ⟨_, rfl, hK.out _ _ ?_ (fun hS' => ?_)⟩
      · exact ⟨(hS.1).later (hb), (hS.2.1).later (hb), (hS.2.2).trans ((hb).mono (hS.2.2).size)⟩
      · exact st2_1 w' b0 u0 t0 D1 w'.heap.size hS' (x0.later (hb)) r0 (f0.later (hb)) p0 (Nat.le_trans m0 (hb).size) (lN.mono (hS.2.2).size) (lN.within.from_ m0) qN aN (Nat.le_refl _)
    refine AllReadyH.cons (o := { dst := some 13, op := Op.alloc 35, type := 0, pos := "again.go:128", after := #[], guard := none }) rfl (fun K hK => ?_) ?_
    · rw [if_pos (by rfl)]
      refine wp_alloc_entry ?_
      refine hK.out _ _ ?_ (fun hS' => ?_)
      · exact ⟨(hS.1).later ((Below.refl wx.heap.size wx).alloc (Nat.le_refl _) (.cells zeroD.cells 35)), (hS.2.1).later ((Below.refl wx.heap.size wx).alloc (Nat.le_refl _) (.cells zeroD.cells 35)), (hS.2.2).trans (((Below.refl wx.heap.size wx).alloc (Nat.le_refl _) (.cells zeroD.cells 35)).mono (hS.2.2).size)⟩
      · exact st1_3 _ b0 wx.heap.size u0 t0 hS' (x0.later ((Below.refl wx.heap.size wx).alloc (Nat.le_refl _) (.cells zeroD.cells 35))) (EBox.new wx zeroD) (ebox_ne x0) r0 (hS.2.2).size (f0.later ((Below.refl wx.heap.size wx).alloc (Nat.le_refl _) (.cells zeroD.cells 35))) p0 (Nat.le_trans m0 ((Below.refl wx.heap.size wx).alloc (Nat.le_refl _) (.cells zeroD.cells 35)).size)
    exact AllReadyH.nil
  have st1_2 : ∀ (wx : World) (b1 : Nat) (u0 : Value) (t0 : Nat), (fun wx => EBox wx g0 e0 ∧ EBox wx g1 e1 ∧ Below X.heap.size X wx) wx → EBox wx b1 zeroD → X.heap.size ≤ b1 → Laid wx X.heap.size u0 (bs.take 5000) → (∀ g, (u0).ownBlock = some g → X.heap.size ≤ g ∧ g < t0) → t0 ≤ wx.heap.size → wpAnyH Try.prog .any again1Ops (NoPanic Q) (fun wx => EBox wx g0 e0 ∧ EBox wx g1 e1 ∧ Below X.heap.size X wx) 6 #[true, true, true, false, true, false, false, true, false, false, false] (again1Act (.slice ba bn bc) s1 s2 s3 s4 (.pointer (some ⟨g0, 0, none⟩)) (.pointer (some ⟨g1, 0, none⟩)) s10 undef undef (.pointer (some ⟨b1, 0, none⟩)) (.slice ba bn bc) u0 (.agg e0.cells) undef (.agg e1.cells) undef) wx := by
    intro wx b1 u0 t0 hS x1 r1 f0 p0 m0
    refine wpAnyH_ready (rs := [3, 6]) (by kernel_rfl) (by simp) ?_
    refine AllReadyH.cons (o := { dst := some 30, op := Op.call { callee := Callee.value (Operand.func 19), args := #[Operand.tmp 29], argTypes := #[35] }, type := 35, pos := "again.go:128", after := #[{ on := 2, ground := Ground.data }, { on := 1, ground := Ground.chain }], guard := none }) rfl (fun K hK => ?_) ?_
    · rw [if_pos (by rfl)]
      refine wp_call_entry (entry_ap ((HK.out.1).later (hS.2.2))) rfl ?_
      rintro r w' ⟨D1, rfl, qN, lN, hb, aN⟩
      refine ⟨_, rfl, hK.out _ _ ?_ (fun hS' => ?_)⟩
      · exact ⟨(hS.1).later (hb), (hS.2.1).later (hb), (hS.2.2).trans ((hb).mono (hS.2.2).size)⟩
      · exact st2_2 w' b1 u0 t0 D1 w'.heap.size hS' (x1.later (hb)) r1 (f0.later (hb)) p0 (Nat.le_trans m0 (hb).size) (lN.mono (hS.2.2).size) (lN.within.from_ m0) qN aN (Nat.le_refl _)
    refine AllReadyH.cons (o := { dst := some 12, op := Op.alloc 35, type := 0, pos := "again.go:128", after := #[], guard := none }) rfl (fun K hK => ?_) ?_
    · rw [if_pos (by rfl)]
      refine wp_alloc_entry ?_
      refine hK.out _ _ ?_ (fun hS' => ?_)
      · exact ⟨(hS.1).later ((Below.refl wx.heap.size wx).alloc (Nat.le_refl _) (.cells zeroD.cells 35)), (hS.2.1).later ((Below.refl wx.heap.size wx).alloc (Nat.le_refl _) (.cells zeroD.cells 35)), (hS.2.2).trans (((Below.refl wx.heap.size wx).alloc (Nat.le_refl _) (.cells zeroD.cells 35)).mono (hS.2.2).size)⟩
      · exact st1_3 _ wx.heap.size b1 u0 t0 hS' (EBox.new wx zeroD) (x1.later ((Below.refl wx.heap.size wx).alloc (Nat.le_refl _) (.cells zeroD.cells 35))) (Ne.symm (ebox_ne x1)) (hS.2.2).size r1 (f0.later ((Below.refl wx.heap.size wx).alloc (Nat.le_refl _) (.cells zeroD.cells 35))) p0 (Nat.le_trans m0 ((Below.refl wx.heap.size wx).alloc (Nat.le_refl _) (.cells zeroD.cells 35)).size)
    exact AllReadyH.nil
  have st1_0 : ∀ (wx : World) (u0 : Value) (t0 : Nat), (fun wx => EBox wx g0 e0 ∧ EBox wx g1 e1 ∧ Below X.heap.size X wx) wx → Laid wx X.heap.size u0 (bs.take 5000) → (∀ g, (u0).ownBlock = some g → X.heap.size ≤ g ∧ g < t0) → t0 ≤ wx.heap.size → wpAnyH Try.prog .any again1Ops (NoPanic Q) (fun wx => EBox wx g0 e0 ∧ EBox wx g1 e1 ∧ Below X.heap.size X wx) 7 #[true, true, true, false, true, false, false, false, false, false, false] (again1Act (.slice ba bn bc) s1 s2 s3 s4 (.pointer (some ⟨g0, 0, none⟩)) (.pointer (some ⟨g1, 0, none⟩)) s10 undef undef undef (.slice ba bn bc) u0 (.agg e0.cells) undef (.agg e1.cells) undef) wx := by
    intro wx u0 t0 hS f0 p0 m0
    refine wpAnyH_ready (rs := [3, 6, 7]) (by kernel_rfl) (by simp) ?_
    refine AllReadyH.cons (o := { dst := some 30, op := Op.call { callee := Callee.value (Operand.func 19), args := #[Operand.tmp 29], argTypes := #[35] }, type := 35, pos := "again.go:128", after := #[{ on := 2, ground := Ground.data }, { on := 1, ground := Ground.chain }], guard := none }) rfl (fun K hK => ?_) ?_
    · rw [if_pos (by rfl)]
      refine wp_call_entry (entry_ap ((HK.out.1).later (hS.2.2))) rfl ?_
      rintro r w' ⟨D1, rfl, qN, lN, hb, aN⟩
      refine ⟨_, rfl, hK.out _ _ ?_ (fun hS' => ?_)⟩
      · exact ⟨(hS.1).later (hb), (hS.2.1).later (hb), (hS.2.2).trans ((hb).mono (hS.2.2).size)⟩
      · exact st2_0 w' u0 t0 D1 w'.heap.size hS' (f0.later (hb)) p0 (Nat.le_trans m0 (hb).size) (lN.mono (hS.2.2).size) (lN.within.from_ m0) qN aN (Nat.le_refl _)
    refine AllReadyH.cons (o := { dst := some 12, op := Op.alloc 35, type := 0, pos := "again.go:128", after := #[], guard := none }) rfl (fun K hK => ?_) ?_
    · rw [if_pos (by rfl)]
      refine wp_alloc_entry ?_
      refine hK.out _ _ ?_ (fun hS' => ?_)
      · exact ⟨(hS.1).later ((Below.refl wx.heap.size wx).alloc (Nat.le_refl _) (.cells zeroD.cells 35)), (hS.2.1).later ((Below.refl wx.heap.size wx).alloc (Nat.le_refl _) (.cells zeroD.cells 35)), (hS.2.2).trans (((Below.refl wx.heap.size wx).alloc (Nat.le_refl _) (.cells zeroD.cells 35)).mono (hS.2.2).size)⟩
      · exact st1_1 _ wx.heap.size u0 t0 hS' (EBox.new wx zeroD) (hS.2.2).size (f0.later ((Below.refl wx.heap.size wx).alloc (Nat.le_refl _) (.cells zeroD.cells 35))) p0 (Nat.le_trans m0 ((Below.refl wx.heap.size wx).alloc (Nat.le_refl _) (.cells zeroD.cells 35)).size)
    refine AllReadyH.cons (o := { dst := some 13, op := Op.alloc 35, type := 0, pos := "again.go:128", after := #[], guard := none }) rfl (fun K hK => ?_) ?_
    · rw [if_pos (by rfl)]
      refine wp_alloc_entry ?_
      refine hK.out _ _ ?_ (fun hS' => ?_)
      · exact ⟨(hS.1).later ((Below.refl wx.heap.size wx).alloc (Nat.le_refl _) (.cells zeroD.cells 35)), (hS.2.1).later ((Below.refl wx.heap.size wx).alloc (Nat.le_refl _) (.cells zeroD.cells 35)), (hS.2.2).trans (((Below.refl wx.heap.size wx).alloc (Nat.le_refl _) (.cells zeroD.cells 35)).mono (hS.2.2).size)⟩
      · exact st1_2 _ wx.heap.size u0 t0 hS' (EBox.new wx zeroD) (hS.2.2).size (f0.later ((Below.refl wx.heap.size wx).alloc (Nat.le_refl _) (.cells zeroD.cells 35))) p0 (Nat.le_trans m0 ((Below.refl wx.heap.size wx).alloc (Nat.le_refl _) (.cells zeroD.cells 35)).size)
    exact AllReadyH.nil
  have st0_3 : ∀ (wx : World) (b0 : Nat) (b1 : Nat), (fun wx => EBox wx g0 e0 ∧ EBox wx g1 e1 ∧ Below X.heap.size X wx) wx → EBox wx b0 zeroD → EBox wx b1 zeroD → b0 ≠ b1 → X.heap.size ≤ b0 → X.heap.size ≤ b1 → wpAnyH Try.prog .any again1Ops (NoPanic Q) (fun wx => EBox wx g0 e0 ∧ EBox wx g1 e1 ∧ Below X.heap.size X wx) 6 #[true, false, true, false, true, false, true, true, false, false, false] (again1Act (.slice ba bn bc) s1 s2 s3 s4 (.pointer (some ⟨g0, 0, none⟩)) (.pointer (some ⟨g1, 0, none⟩)) s10 undef (.pointer (some ⟨b0, 0, none⟩)) (.pointer (some ⟨b1, 0, none⟩)) (.slice ba bn bc) undef (.agg e0.cells) undef (.agg e1.cells) undef) wx := by
    intro wx b0 b1 hS x0 x1 n01 r0 r1
    refine wpAnyH_ready (rs := [1]) (by kernel_rfl) (by simp) ?_
    refine AllReadyH.cons (o := { dst := some 28, op := Op.call { callee := Callee.value (Operand.func 30), args := #[Operand.tmp 27, Operand.const (Value.int IntKind.i64 5000)], argTypes := #[33, 3] }, type := 33, pos := "again.go:128", after := #[{ on := 0, ground := Ground.data }], guard := none }) rfl (fun K hK => ?_) ?_
    · rw [if_pos (by rfl)]
      refine wp_call_laid (laid_any (N := 5000) ((HR.out.1).later (hS.2.2)) (by decide)) rfl ?_
      rintro r w' ⟨u0, rfl, lN, hb⟩
      refine ⟨_, rfl, hK.out _ _ ?_ (fun hS' => ?_)⟩
      · exact ⟨(hS.1).later (hb), (hS.2.1).later (hb), (hS.2.2).trans ((hb).mono (hS.2.2).size)⟩
      · exact st1_3 w' b0 b1 u0 w'.heap.size hS' (x0.later (hb)) (x1.later (hb)) n01 r0 r1 (lN.mono (hS.2.2).size) (fun g hg => ⟨Nat.le_trans (hS.2.2).size (lN.own_lt g hg).1, (lN.own_lt g hg).2⟩) (Nat.le_refl _)
    exact AllReadyH.nil
  have st0_1 : ∀ (wx : World) (b0 : Nat), (fun wx => EBox wx g0 e0 ∧ EBox wx g1 e1 ∧ Below X.heap.size X wx) wx → EBox wx b0 zeroD → X.heap.size ≤ b0 → wpAnyH Try.prog .any again1Ops (NoPanic Q) (fun wx => EBox wx g0 e0 ∧ EBox wx g1 e1 ∧ Below X.heap.size X wx) 7 #[true, false, true, false, true, false, true, false, false, false, false] (again1Act (.slice ba bn bc) s1 s2 s3 s4 (.pointer (some ⟨g0, 0, none⟩)) (.pointer (some ⟨g1, 0, none⟩)) s10 undef (.pointer (some ⟨b0, 0, none⟩)) undef (.slice ba bn bc) undef (.agg e0.cells) undef (.agg e1.cells) undef) wx := by
    intro wx b0 hS x0 r0
    refine wpAnyH_ready (rs := [1, 7]) (by kernel_rfl) (by simp) ?_
    refine AllReadyH.cons (o := { dst := some 28, op := Op.call { callee := Callee.value (Operand.func 30), args := #[Operand.tmp 27, Operand.const (Value.int IntKind.i64 5000)], argTypes := #[33, 3] }, type := 33, pos := "again.go:128", after := #[{ on := 0, ground := Ground.data }], guard := none }) rfl (fun K hK => ?_) ?_
    · rw [if_pos (by rfl)]
      refine wp_call_laid (laid_any (N := 5000) ((HR.out.1).later (hS.2.2)) (by decide)) rfl ?_
      rintro r w' ⟨u0, rfl, lN, hb⟩
      refine ⟨_, rfl, hK.out _ _ ?_ (fun hS' => ?_)⟩
      · exact ⟨(hS.1).later (hb), (hS.2.1).later (hb), (hS.2.2).trans ((hb).mono (hS.2.2).size)⟩
      · exact st1_1 w' b0 u0 w'.heap.size hS' (x0.later (hb)) r0 (lN.mono (hS.2.2).size) (fun g hg => ⟨Nat.le_trans (hS.2.2).size (lN.own_lt g hg).1, (lN.own_lt g hg).2⟩) (Nat.le_refl _)
    refine AllReadyH.cons (o := { dst := some 13, op := Op.alloc 35, type := 0, pos := "again.go:128", after := #[], guard := none }) rfl (fun K hK => ?_) ?_
    · rw [if_pos (by rfl)]
      refine wp_alloc_entry ?_
      refine hK.out _ _ ?_ (fun hS' => ?_)
      · exact ⟨(hS.1).later ((Below.refl wx.heap.size wx).alloc (Nat.le_refl _) (.cells zeroD.cells 35)), (hS.2.1).later ((Below.refl wx.heap.size wx).alloc (Nat.le_refl _) (.cells zeroD.cells 35)), (hS.2.2).trans (((Below.refl wx.heap.size wx).alloc (Nat.le_refl _) (.cells zeroD.cells 35)).mono (hS.2.2).size)⟩
      · exact st0_3 _ b0 wx.heap.size hS' (x0.later ((Below.refl wx.heap.size wx).alloc (Nat.le_refl _) (.cells zeroD.cells 35))) (EBox.new wx zeroD) (ebox_ne x0) r0 (hS.2.2).size
    exact AllReadyH.nil
  have st0_2 : ∀ (wx : World) (b1 : Nat), (fun wx => EBox wx g0 e0 ∧ EBox wx g1 e1 ∧ Below X.heap.size X wx) wx → EBox wx b1 zeroD → X.heap.size ≤ b1 → wpAnyH Try.prog .any again1Ops (NoPanic Q) (fun wx => EBox wx g0 e0 ∧ EBox wx g1 e1 ∧ Below X.heap.size X wx) 7 #[true, false, true, false, true, false, false, true, false, false, false] (again1Act (.slice ba bn bc) s1 s2 s3 s4 (.pointer (some ⟨g0, 0, none⟩)) (.pointer (some ⟨g1, 0, none⟩)) s10 undef undef (.pointer (some ⟨b1, 0, none⟩)) (.slice ba bn bc) undef (.agg e0.cells) undef (.agg e1.cells) undef) wx := by
    intro wx b1 hS x1 r1
    refine wpAnyH_ready (rs := [1, 6]) (by kernel_rfl) (by simp) ?_
    refine AllReadyH.cons (o := { dst := some 28, op := Op.call { callee := Callee.value (Operand.func 30), args := #[Operand.tmp 27, Operand.const (Value.int IntKind.i64 5000)], argTypes := #[33, 3] }, type := 33, pos := "again.go:128", after := #[{ on := 0, ground := Ground.data }], guard := none }) rfl (fun K hK => ?_) ?_
    · rw [if_pos (by rfl)]
      refine wp_call_laid (laid_any (N := 5000) ((HR.out.1).later (hS.2.2)) (by decide)) rfl ?_
      rintro r w' ⟨u0, rfl, lN, hb⟩
      refine ⟨_, rfl, hK.out _ _ ?_ (fun hS' => ?_)⟩
      · exact ⟨(hS.1).later (hb), (hS.2.1).later (hb), (hS.2.2).trans ((hb).mono (hS.2.2).size)⟩
      · exact st1_2 w' b1 u0 w'.heap.size hS' (x1.later (hb)) r1 (lN.mono (hS.2.2).size) (fun g hg => ⟨Nat.le_trans (hS.2.2).size (lN.own_lt g hg).1, (lN.own_lt g hg).2⟩) (Nat.le_refl _)
    refine AllReadyH.cons (o := { dst := some 12, op := Op.alloc 35, type := 0, pos := "again.go:128", after := #[], guard := none }) rfl (fun K hK => ?_) ?_
    · rw [if_pos (by rfl)]
      refine wp_alloc_entry ?_
      refine hK.out _ _ ?_ (fun hS' => ?_)
      · exact ⟨(hS.1).later ((Below.refl wx.heap.size wx).alloc (Nat.le_refl _) (.cells zeroD.cells 35)), (hS.2.1).later ((Below.refl wx.heap.size wx).alloc (Nat.le_refl _) (.cells zeroD.cells 35)), (hS.2.2).trans (((Below.refl wx.heap.size wx).alloc (Nat.le_refl _) (.cells zeroD.cells 35)).mono (hS.2.2).size)⟩
      · exact st0_3 _ wx.heap.size b1 hS' (EBox.new wx zeroD) (x1.later ((Below.refl wx.heap.size wx).alloc (Nat.le_refl _) (.cells zeroD.cells 35))) (Ne.symm (ebox_ne x1)) (hS.2.2).size r1
    exact AllReadyH.nil
  have st0_0 : ∀ (wx : World), (fun wx => EBox wx g0 e0 ∧ EBox wx g1 e1 ∧ Below X.heap.size X wx) wx → wpAnyH Try.prog .any again1Ops (NoPanic Q) (fun wx => EBox wx g0 e0 ∧ EBox wx g1 e1 ∧ Below X.heap.size X wx) 8 #[true, false, true, false, true, false, false, false, false, false, false] (again1Act (.slice ba bn bc) s1 s2 s3 s4 (.pointer (some ⟨g0, 0, none⟩)) (.pointer (some ⟨g1, 0, none⟩)) s10 undef undef undef (.slice ba bn bc) undef (.agg e0.cells) undef (.agg e1.cells) undef) wx := by
    intro wx hS
    refine wpAnyH_ready (rs := [1, 6, 7]) (by kernel_rfl) (by simp) ?_
    refine AllReadyH.cons (o := { dst := some 28, op := Op.call { callee := Callee.value (Operand.func 30), args := #[Operand.tmp 27, Operand.const (Value.int IntKind.i64 5000)], argTypes := #[33, 3] }, type := 33, pos := "again.go:128", after := #[{ on := 0, ground := Ground.data }], guard := none }) rfl (fun K hK => ?_) ?_
    · rw [if_pos (by rfl)]
      refine wp_call_laid (laid_any (N := 5000) ((HR.out.1).later (hS.2.2)) (by decide)) rfl ?_
      rintro r w' ⟨u0, rfl, lN, hb⟩
      refine ⟨_, rfl, hK.out _ _ ?_ (fun hS' => ?_)⟩
      · exact ⟨(hS.1).later (hb), (hS.2.1).later (hb), (hS.2.2).trans ((hb).mono (hS.2.2).size)⟩
      · exact st1_0 w' u0 w'.heap.size hS' (lN.mono (hS.2.2).size) (fun g hg => ⟨Nat.le_trans (hS.2.2).size (lN.own_lt g hg).1, (lN.own_lt g hg).2⟩) (Nat.le_refl _)
    refine AllReadyH.cons (o := { dst := some 12, op := Op.alloc 35, type := 0, pos := "again.go:128", after := #[], guard := none }) rfl (fun K hK => ?_) ?_
    · rw [if_pos (by rfl)]
      refine wp_alloc_entry ?_
      refine hK.out _ _ ?_ (fun hS' => ?_)
      · exact ⟨(hS.1).later ((Below.refl wx.heap.size wx).alloc (Nat.le_refl _) (.cells zeroD.cells 35)), (hS.2.1).later ((Below.refl wx.heap.size wx).alloc (Nat.le_refl _) (.cells zeroD.cells 35)), (hS.2.2).trans (((Below.refl wx.heap.size wx).alloc (Nat.le_refl _) (.cells zeroD.cells 35)).mono (hS.2.2).size)⟩
      · exact st0_1 _ wx.heap.size hS' (EBox.new wx zeroD) (hS.2.2).size
    refine AllReadyH.cons (o := { dst := some 13, op := Op.alloc 35, type := 0, pos := "again.go:128", after := #[], guard := none }) rfl (fun K hK => ?_) ?_
    · rw [if_pos (by rfl)]
      refine wp_alloc_entry ?_
      refine hK.out _ _ ?_ (fun hS' => ?_)
      · exact ⟨(hS.1).later ((Below.refl wx.heap.size wx).alloc (Nat.le_refl _) (.cells zeroD.cells 35)), (hS.2.1).later ((Below.refl wx.heap.size wx).alloc (Nat.le_refl _) (.cells zeroD.cells 35)), (hS.2.2).trans (((Below.refl wx.heap.size wx).alloc (Nat.le_refl _) (.cells zeroD.cells 35)).mono (hS.2.2).size)⟩
      · exact st0_2 _ wx.heap.size hS' (EBox.new wx zeroD) (hS.2.2).size
    exact AllReadyH.nil
  refine wp_region_held_drew (S := (fun wx => EBox wx g0 e0 ∧ EBox wx g1 e1 ∧ Below X.heap.size X wx)) (by kernel_rfl) ⟨HB.out.1.later XD, HB.out.2.1.later XD, XD⟩ (fun hS => ?_)
  refine wpAnyH_take (i := 0) (oi := { dst := some 27, op := Op.move (Operand.tmp 0), type := 33, pos := "again.go:128", after := #[], guard := none }) (v := .slice ba bn bc) rfl (by kernel_rfl) (by kernel_rfl) (by kernel_rfl) (fun _ _ _ h => h) (Or.inl ⟨by rfl, fun w hw => move_tmp rfl⟩) hS ?_
  refine wpAnyH_take (i := 2) (oi := { dst := some 29, op := Op.load 35 (Operand.tmp 6), type := 35, pos := "again.go:128", after := #[], guard := none }) (v := .agg e0.cells) rfl (by kernel_rfl) (by kernel_rfl) (by kernel_rfl) (fun _ _ _ h => h) (Or.inl ⟨by rfl, fun w hw => load_entry (hw.1) rfl⟩) hS ?_
  refine wpAnyH_take (i := 4) (oi := { dst := some 31, op := Op.load 35 (Operand.tmp 7), type := 35, pos := "again.go:128", after := #[], guard := none }) (v := .agg e1.cells) rfl (by kernel_rfl) (by kernel_rfl) (by kernel_rfl) (fun _ _ _ h => h) (Or.inl ⟨by rfl, fun w hw => load_entry (hw.2.1) rfl⟩) hS ?_
  exact st0_0 _ hS
end Go.Proofs.Ytjcpjpjccoeakaa
