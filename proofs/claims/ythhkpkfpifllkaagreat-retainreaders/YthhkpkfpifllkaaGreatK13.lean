import Derived.Test.YthhkpkfpifllkaaGreatK12
import Derived.Shelf.SlSortCmp.WholeK
namespace Go.Proofs.YthhkpkfpifllkaaGreat
open Go.RowKit
set_option linter.unusedVariables false

structure BelowD (B : Nat) (w w' : World) : Prop where
  b : Below B w w'
  d : w.drawn ≤ w'.drawn
theorem BelowD.refl (B : Nat) (w : World) : BelowD B w w := ⟨Below.refl _ _, Nat.le_refl _⟩
theorem BelowD.trans {B : Nat} {a b c : World} (h : BelowD B a b) (k : BelowD B b c) : BelowD B a c := ⟨h.b.trans k.b, Nat.le_trans h.d k.d⟩
theorem BelowD.mono {B B' : Nat} {w w' : World} (h : BelowD B w w') (hB : B' ≤ B) : BelowD B' w w' := ⟨h.b.mono hB, h.d⟩
theorem BelowD.drew {B : Nat} {a w : World} (h : BelowD B a w) : BelowD B a w.drew := ⟨h.b.drew, Nat.le_trans h.d (Nat.le_succ _)⟩
theorem BelowD.alloc {B : Nat} {a w : World} (h : BelowD B a w) (hB : B ≤ w.heap.size) (o : Obj) : BelowD B a (w.alloc o) := ⟨h.b.alloc hB o, h.d⟩
theorem BelowD.size {B : Nat} {w w' : World} (h : BelowD B w w') : w.heap.size ≤ w'.heap.size := h.b.size

set_option maxRecDepth 100000 in
set_option maxHeartbeats 2000000 in
theorem aheadIf_d {a b : EntD} (k : Int) {w : World} :
    Calls Tryz.prog 142 #[.agg a.cells, .agg b.cells, .int .i64 k] w fun r w' => r = .returned (.int .i64 (aheadS a b k)) ∧ BelowD w.heap.size w w' := by
  obtain ⟨S, hS⟩ : ∃ S, S = aheadS a b k := ⟨_, rfl⟩
  rw [← hS]
  have HS : Hid (cmpI ((mark a.kind k : Nat) : Int) ((mark b.kind k : Nat) : Int) = S) := by unfold Hid; rw [hS]; rfl
  clear hS
  obtain ⟨M1, hM1⟩ : ∃ M, M = mark a.kind k := ⟨_, rfl⟩
  obtain ⟨M2, hM2⟩ : ∃ M, M = mark b.kind k := ⟨_, rfl⟩
  have q1 := fun w => markOf_m a.kind k w
  have q2 := fun w => markOf_m b.kind k w
  have q3 := fun w => cmpByte_any (M1 : Int) (M2 : Int) w
  rw [← hM1] at q1
  rw [← hM2] at q2
  have HS2 : cmpI (M1 : Int) (M2 : Int) = S := by rw [hM1, hM2]; exact HS.out
  rw [HS2] at q3
  have HQ1 : Hid (∀ w, Calls Tryz.prog 157 #[.int .i64 a.kind, .int .i64 k] w fun e w' => e = .returned (.int .u8 ((M1 : Nat) : Int)) ∧ w' = w) := q1
  have HQ2 : Hid (∀ w, Calls Tryz.prog 157 #[.int .i64 b.kind, .int .i64 k] w fun e w' => e = .returned (.int .u8 ((M2 : Nat) : Int)) ∧ w' = w) := q2
  have HQ3 : Hid (∀ w, Calls Tryz.prog 156 #[.int .u8 (M1 : Int), .int .u8 (M2 : Int)] w fun e w' => e = .returned (.int .i64 S) ∧ w' = w) := q3
  clear q1 q2 q3 hM1 hM2 HS HS2
  have A1 := (BelowD.refl w.heap.size w).alloc (Nat.le_refl _) (.cells a.cells 84)
  have A2 := A1.alloc A1.size (.cells b.cells 84)
  have bxa : Hid (EBox ((w.alloc (.cells a.cells 84)).alloc (.cells b.cells 84)) w.heap.size a) := (EBox.new w a).later ((Below.refl _ _).alloc (Nat.le_refl _) _)
  have bxb : Hid (EBox ((w.alloc (.cells a.cells 84)).alloc (.cells b.cells 84)) (w.heap.size + 1) b) := by
    have := EBox.new (w.alloc (.cells a.cells 84)) b
    rwa [World.size_alloc] at this
  have A2D : BelowD w.heap.size w ((w.alloc (.cells a.cells 84)).alloc (.cells b.cells 84)).drew := A2.drew
  have ya : ((w.alloc (.cells a.cells 84)).alloc (.cells b.cells 84)).drew.cell? ⟨w.heap.size, 5, none⟩ = some (.int .i64 a.kind) := bxa.out.kind
  have yb : ((w.alloc (.cells a.cells 84)).alloc (.cells b.cells 84)).drew.cell? ⟨w.heap.size + 1, 5, none⟩ = some (.int .i64 b.kind) := bxb.out.kind
  clear A1 bxa bxb
  obtain ⟨vr, fam, vq, ts, seq, ka, vv, row, qual, val⟩ := a
  obtain ⟨vr2, fam2, vq2, ts2, seq2, kb, vv2, row2, qual2, val2⟩ := b
  simp only [EntD.cells] at *
  go_enter Tryz.func142, Tryz.ntmps142
  go_wp2_with fail
  go_region_held3 (fun wx => wx.cell? ⟨w.heap.size, 5, none⟩ = some (.int .i64 ka) ∧ wx.cell? ⟨w.heap.size + 1, 5, none⟩ = some (.int .i64 kb) ∧ BelowD w.heap.size w wx) (first | exact ⟨ya, yb, A2D⟩) (first | (go_at_call 157; refine (HQ1.out _).mono ?_; rintro e1 wm ⟨rfl, rfl⟩) | (go_at_call 157; refine (HQ2.out _).mono ?_; rintro e1 wm ⟨rfl, rfl⟩) | (go_at_call 156; refine (HQ3.out _).mono ?_; rintro e1 wm ⟨rfl, rfl⟩))
  all_goals (go_wp2; go_ret; exact ⟨rfl, A2D⟩)

set_option maxRecDepth 100000 in
set_option maxHeartbeats 1000000 in
theorem ord1_d {a b : EntD} {w : World} (ha : EntD.Ok w a) (hb : EntD.Ok w b) :
    Calls Tryz.prog 137 #[.agg a.cells, .agg b.cells] w fun r w' => r = .returned (.int .i64 (ordC a.row b.row)) ∧ BelowD w.heap.size w w' := by
  have A1 := (BelowD.refl w.heap.size w).alloc (Nat.le_refl _) (.cells a.cells 84)
  have A2 := A1.alloc A1.size (.cells b.cells 84)
  have oa := ha.later A2.b
  have ob := hb.later A2.b
  clear A1 ha hb
  obtain ⟨vr, fam, vq, ts, seq, ka, vv, row, qual, val⟩ := a
  obtain ⟨vr2, fam2, vq2, ts2, seq2, kb, vv2, row2, qual2, val2⟩ := b
  obtain ⟨r1, q1, v1⟩ := oa
  obtain ⟨r2, q2, v2⟩ := ob
  simp only [EntD.cells] at *
  go_enter Tryz.func137, Tryz.ntmps137
  go_wp2_with fail
  refine (bytesCompare_any r1 r2).mono ?_
  rintro e1 w1 ⟨rfl, rfl⟩
  go_wp2
  go_ret
  exact ⟨rfl, A2⟩

set_option maxRecDepth 100000 in
set_option maxHeartbeats 1000000 in
theorem ord2_d {a b : EntD} {w : World} (ha : EntD.Ok w a) (hb : EntD.Ok w b) :
    Calls Tryz.prog 139 #[.agg a.cells, .agg b.cells] w fun r w' => r = .returned (.int .i64 (cmpI a.fam b.fam)) ∧ BelowD w.heap.size w w' := by
  have A1 := (BelowD.refl w.heap.size w).alloc (Nat.le_refl _) (.cells a.cells 84)
  have A2 := A1.alloc A1.size (.cells b.cells 84)
  have oa := ha.later A2.b
  have ob := hb.later A2.b
  clear A1 ha hb
  obtain ⟨vr, fam, vq, ts, seq, ka, vv, row, qual, val⟩ := a
  obtain ⟨vr2, fam2, vq2, ts2, seq2, kb, vv2, row2, qual2, val2⟩ := b
  obtain ⟨r1, q1, v1⟩ := oa
  obtain ⟨r2, q2, v2⟩ := ob
  simp only [EntD.cells] at *
  go_enter Tryz.func139, Tryz.ntmps139
  go_wp2_with fail
  refine (cmpInt_any _ _ _).mono ?_
  rintro e1 w1 ⟨rfl, rfl⟩
  go_wp2
  go_ret
  exact ⟨rfl, A2⟩

set_option maxRecDepth 100000 in
set_option maxHeartbeats 1000000 in
theorem ord3_d {a b : EntD} {w : World} (ha : EntD.Ok w a) (hb : EntD.Ok w b) :
    Calls Tryz.prog 141 #[.agg a.cells, .agg b.cells] w fun r w' => r = .returned (.int .i64 (aheadS a b 5)) ∧ BelowD w.heap.size w w' := by
  have A1 := (BelowD.refl w.heap.size w).alloc (Nat.le_refl _) (.cells a.cells 84)
  have A2 := A1.alloc A1.size (.cells b.cells 84)
  have oa := ha.later A2.b
  have ob := hb.later A2.b
  clear A1 ha hb
  have c1 := aheadIf_d (a := a) (b := b) 5 (w := (w.alloc (.cells a.cells 84)).alloc (.cells b.cells 84))
  obtain ⟨S, hS⟩ : ∃ S, S = aheadS a b 5 := ⟨_, rfl⟩
  rw [← hS] at c1 ⊢
  have HC : Hid (Calls Tryz.prog 142 #[.agg a.cells, .agg b.cells, .int .i64 5] ((w.alloc (.cells a.cells 84)).alloc (.cells b.cells 84)) fun r w' => r = .returned (.int .i64 S) ∧ BelowD ((w.alloc (.cells a.cells 84)).alloc (.cells b.cells 84)).heap.size ((w.alloc (.cells a.cells 84)).alloc (.cells b.cells 84)) w') := c1
  clear c1 hS
  obtain ⟨vr, fam, vq, ts, seq, ka, vv, row, qual, val⟩ := a
  obtain ⟨vr2, fam2, vq2, ts2, seq2, kb, vv2, row2, qual2, val2⟩ := b
  obtain ⟨r1, q1, v1⟩ := oa
  obtain ⟨r2, q2, v2⟩ := ob
  simp only [EntD.cells] at *
  go_enter Tryz.func141, Tryz.ntmps141
  go_wp2_with fail
  refine HC.out.mono ?_
  rintro e1 w1 ⟨rfl, hb1⟩
  have B1 := A2.trans (hb1.mono A2.size)
  go_wp2
  go_ret
  exact ⟨rfl, B1⟩

set_option maxRecDepth 100000 in
set_option maxHeartbeats 1000000 in
theorem ord4_d {a b : EntD} {w : World} (ha : EntD.Ok w a) (hb : EntD.Ok w b) :
    Calls Tryz.prog 143 #[.agg a.cells, .agg b.cells] w fun r w' => r = .returned (.int .i64 (ordC a.qual b.qual)) ∧ BelowD w.heap.size w w' := by
  have A1 := (BelowD.refl w.heap.size w).alloc (Nat.le_refl _) (.cells a.cells 84)
  have A2 := A1.alloc A1.size (.cells b.cells 84)
  have oa := ha.later A2.b
  have ob := hb.later A2.b
  clear A1 ha hb
  obtain ⟨vr, fam, vq, ts, seq, ka, vv, row, qual, val⟩ := a
  obtain ⟨vr2, fam2, vq2, ts2, seq2, kb, vv2, row2, qual2, val2⟩ := b
  obtain ⟨r1, q1, v1⟩ := oa
  obtain ⟨r2, q2, v2⟩ := ob
  simp only [EntD.cells] at *
  go_enter Tryz.func143, Tryz.ntmps143
  go_wp2_with fail
  refine (bytesCompare_any q1 q2).mono ?_
  rintro e1 w1 ⟨rfl, rfl⟩
  go_wp2
  go_ret
  exact ⟨rfl, A2⟩

set_option maxRecDepth 100000 in
set_option maxHeartbeats 1000000 in
theorem ord5_d {a b : EntD} {w : World} (ha : EntD.Ok w a) (hb : EntD.Ok w b) :
    Calls Tryz.prog 144 #[.agg a.cells, .agg b.cells] w fun r w' => r = .returned (.int .i64 (aheadS a b 4)) ∧ BelowD w.heap.size w w' := by
  have A1 := (BelowD.refl w.heap.size w).alloc (Nat.le_refl _) (.cells a.cells 84)
  have A2 := A1.alloc A1.size (.cells b.cells 84)
  have oa := ha.later A2.b
  have ob := hb.later A2.b
  clear A1 ha hb
  have c1 := aheadIf_d (a := a) (b := b) 4 (w := (w.alloc (.cells a.cells 84)).alloc (.cells b.cells 84))
  obtain ⟨S, hS⟩ : ∃ S, S = aheadS a b 4 := ⟨_, rfl⟩
  rw [← hS] at c1 ⊢
  have HC : Hid (Calls Tryz.prog 142 #[.agg a.cells, .agg b.cells, .int .i64 4] ((w.alloc (.cells a.cells 84)).alloc (.cells b.cells 84)) fun r w' => r = .returned (.int .i64 S) ∧ BelowD ((w.alloc (.cells a.cells 84)).alloc (.cells b.cells 84)).heap.size ((w.alloc (.cells a.cells 84)).alloc (.cells b.cells 84)) w') := c1
  clear c1 hS
  obtain ⟨vr, fam, vq, ts, seq, ka, vv, row, qual, val⟩ := a
  obtain ⟨vr2, fam2, vq2, ts2, seq2, kb, vv2, row2, qual2, val2⟩ := b
  obtain ⟨r1, q1, v1⟩ := oa
  obtain ⟨r2, q2, v2⟩ := ob
  simp only [EntD.cells] at *
  go_enter Tryz.func144, Tryz.ntmps144
  go_wp2_with fail
  refine HC.out.mono ?_
  rintro e1 w1 ⟨rfl, hb1⟩
  have B1 := A2.trans (hb1.mono A2.size)
  go_wp2
  go_ret
  exact ⟨rfl, B1⟩

set_option maxRecDepth 100000 in
set_option maxHeartbeats 1000000 in
theorem ord6_d {a b : EntD} {w : World} (ha : EntD.Ok w a) (hb : EntD.Ok w b) :
    Calls Tryz.prog 145 #[.agg a.cells, .agg b.cells] w fun r w' => r = .returned (.int .i64 (cmpI b.ts a.ts)) ∧ BelowD w.heap.size w w' := by
  have A1 := (BelowD.refl w.heap.size w).alloc (Nat.le_refl _) (.cells a.cells 84)
  have A2 := A1.alloc A1.size (.cells b.cells 84)
  have oa := ha.later A2.b
  have ob := hb.later A2.b
  clear A1 ha hb
  obtain ⟨vr, fam, vq, ts, seq, ka, vv, row, qual, val⟩ := a
  obtain ⟨vr2, fam2, vq2, ts2, seq2, kb, vv2, row2, qual2, val2⟩ := b
  obtain ⟨r1, q1, v1⟩ := oa
  obtain ⟨r2, q2, v2⟩ := ob
  simp only [EntD.cells] at *
  go_enter Tryz.func145, Tryz.ntmps145
  go_wp2_with fail
  refine (cmpInt_any _ _ _).mono ?_
  rintro e1 w1 ⟨rfl, rfl⟩
  go_wp2
  go_ret
  exact ⟨rfl, A2⟩

set_option maxRecDepth 100000 in
set_option maxHeartbeats 1000000 in
theorem ord7_d {a b : EntD} {w : World} (ha : EntD.Ok w a) (hb : EntD.Ok w b) :
    Calls Tryz.prog 146 #[.agg a.cells, .agg b.cells] w fun r w' => r = .returned (.int .i64 (cmpI b.seq a.seq)) ∧ BelowD w.heap.size w w' := by
  have A1 := (BelowD.refl w.heap.size w).alloc (Nat.le_refl _) (.cells a.cells 84)
  have A2 := A1.alloc A1.size (.cells b.cells 84)
  have oa := ha.later A2.b
  have ob := hb.later A2.b
  clear A1 ha hb
  obtain ⟨vr, fam, vq, ts, seq, ka, vv, row, qual, val⟩ := a
  obtain ⟨vr2, fam2, vq2, ts2, seq2, kb, vv2, row2, qual2, val2⟩ := b
  obtain ⟨r1, q1, v1⟩ := oa
  obtain ⟨r2, q2, v2⟩ := ob
  simp only [EntD.cells] at *
  go_enter Tryz.func146, Tryz.ntmps146
  go_wp2_with fail
  refine (cmpInt_any _ _ _).mono ?_
  rintro e1 w1 ⟨rfl, rfl⟩
  go_wp2
  go_ret
  exact ⟨rfl, A2⟩

set_option maxRecDepth 100000 in
set_option maxHeartbeats 1000000 in
theorem ord8_d {a b : EntD} {w : World} (ha : EntD.Ok w a) (hb : EntD.Ok w b) :
    Calls Tryz.prog 147 #[.agg a.cells, .agg b.cells] w fun r w' => r = .returned (.int .i64 (cmpI a.kind b.kind)) ∧ BelowD w.heap.size w w' := by
  have A1 := (BelowD.refl w.heap.size w).alloc (Nat.le_refl _) (.cells a.cells 84)
  have A2 := A1.alloc A1.size (.cells b.cells 84)
  have oa := ha.later A2.b
  have ob := hb.later A2.b
  clear A1 ha hb
  obtain ⟨vr, fam, vq, ts, seq, ka, vv, row, qual, val⟩ := a
  obtain ⟨vr2, fam2, vq2, ts2, seq2, kb, vv2, row2, qual2, val2⟩ := b
  obtain ⟨r1, q1, v1⟩ := oa
  obtain ⟨r2, q2, v2⟩ := ob
  simp only [EntD.cells] at *
  go_enter Tryz.func147, Tryz.ntmps147
  go_wp2_with fail
  refine (cmpInt_any _ _ _).mono ?_
  rintro e1 w1 ⟨rfl, rfl⟩
  go_wp2
  go_ret
  exact ⟨rfl, A2⟩

end Go.Proofs.YthhkpkfpifllkaaGreat


namespace Go.Proofs.YthhkpkfpifllkaaGreat
open Go.RowKit
set_option linter.unusedVariables false

set_option maxRecDepth 100000 in
set_option maxHeartbeats 1000000 in
theorem order_fns_d (w : World) : Calls Tryz.prog 111 #[] w fun r w' => r = .returned (.agg #[.func (.func 137) #[] #[], .func (.func 139) #[] #[], .func (.func 141) #[] #[], .func (.func 143) #[] #[], .func (.func 144) #[] #[], .func (.func 145) #[] #[], .func (.func 146) #[] #[], .func (.func 147) #[] #[]]) ∧ BelowD w.heap.size w w' := by
  have A1 := (BelowD.refl w.heap.size w).alloc (Nat.le_refl _) (.cells #[.func (.func 137) #[] #[], .func (.func 139) #[] #[], .func (.func 141) #[] #[], .func (.func 143) #[] #[], .func (.func 144) #[] #[], .func (.func 145) #[] #[], .func (.func 146) #[] #[], .func (.func 147) #[] #[]] 167)
  go_enter Tryz.func111, Tryz.ntmps111
  go_wp2
  go_returns
  exact ⟨rfl, A1⟩

set_option maxRecDepth 100000 in
set_option maxHeartbeats 8000000 in
theorem compare_d {a b : EntD} {w : World} (ha : EntD.Ok w a) (hb : EntD.Ok w b) :
    Calls Tryz.prog 81 #[.agg a.cells, .agg b.cells] w fun r w' => r = .returned (.int .i64 (compareS a b)) ∧ BelowD w.heap.size w w' := by
  have A1 := (BelowD.refl w.heap.size w).alloc (Nat.le_refl _) (.cells a.cells 84)
  have A2 := A1.alloc A1.size (.cells b.cells 84)
  have bxa0 := (EBox.new w a).later ((Below.refl (w.alloc (.cells a.cells 84)).heap.size (w.alloc (.cells a.cells 84))).alloc (Nat.le_refl _) (.cells b.cells 84))
  have bxb0 := EBox.new (w.alloc (.cells a.cells 84)) b
  rw [World.size_alloc] at bxb0
  have BXA0 : Hid (EBox _ w.heap.size a) := bxa0
  have BXB0 : Hid (EBox _ (w.heap.size + 1) b) := bxb0
  have HA : Hid (EntD.Ok w a) := ha
  have HB : Hid (EntD.Ok w b) := hb
  obtain ⟨va, hva⟩ : ∃ v, v = a.cells := ⟨_, rfl⟩
  clear A1 bxa0 bxb0 ha hb hva va
  go_enter Tryz.func81, Tryz.ntmps81
  go_wp2_with fail
  refine (order_fns_d _).mono ?_
  rintro e1 w1 ⟨rfl, hb1⟩
  have B1 := A2.trans (hb1.mono A2.size)
  have BXA1 := BXA0.out.later hb1.b
  have BXB1 := BXB0.out.later hb1.b
  clear A2 BXA0 BXB0 hb1
  go_wp2
  go_loopw [6, 7, 9] (fun f n i wr => ∃ t : Nat, t ≤ 8 ∧ i = .int .i64 (t : Int) ∧ (∀ j, j < t → (cmpsS a b).getD j 0 = 0) ∧ EBox wr w.heap.size a ∧ EBox wr (w.heap.size + 1) b ∧ BelowD w.heap.size w wr) (fun _ _ i _ => 8 - (intOf i).toNat)
  case atStart => exact ⟨0, by omega, rfl, fun j hj => by omega, BXA1, BXB1, B1⟩
  case round =>
    obtain ⟨t, ht8, rfl, hz, bxa, bxb, hb1⟩ := hrel
    have HZ : Hid (∀ j, j < t → (cmpsS a b).getD j 0 = 0) := hz
    have BXA : Hid (EBox wr w.heap.size a) := bxa
    have BXB : Hid (EBox wr (w.heap.size + 1) b) := bxb
    clear hz
    by_cases hlt : t < 8
    · obtain ⟨S, hS⟩ : ∃ S, S = (cmpsS a b).getD t 0 := ⟨_, rfl⟩
      have HS : Hid (S = (cmpsS a b).getD t 0) := hS
      clear hS
      have ca0 := bxa.vr
      have ca1 := bxa.fam
      have ca2 := bxa.vq
      have ca3 := bxa.ts
      have ca4 := bxa.seq
      have ca5 := bxa.kind
      have ca6 := bxa.vv
      have cb0 := bxb.vr
      have cb1 := bxb.fam
      have cb2 := bxb.vq
      have cb3 := bxb.ts
      have cb4 := bxb.seq
      have cb5 := bxb.kind
      have cb6 := bxb.vv
      rcases (show t = 0 ∨ t = 1 ∨ t = 2 ∨ t = 3 ∨ t = 4 ∨ t = 5 ∨ t = 6 ∨ t = 7 by omega) with rfl | rfl | rfl | rfl | rfl | rfl | rfl | rfl
      · have HC : Hid (∀ w2, BelowD w.heap.size w w2 → Calls Tryz.prog 137 #[.agg a.cells, .agg b.cells] w2 fun r w' => r = .returned (.int .i64 S) ∧ BelowD w2.heap.size w2 w') := fun w2 h2 => by rw [HS.out]; exact ord1_d (HA.out.later h2.b) (HB.out.later h2.b)
        have hidx : ∀ w, (Instr.index 167 (.agg #[.func (.func 137) #[] #[], .func (.func 139) #[] #[], .func (.func 141) #[] #[], .func (.func 143) #[] #[], .func (.func 144) #[] #[], .func (.func 145) #[] #[], .func (.func 146) #[] #[], .func (.func 147) #[] #[]]) (.int .i64 0)).run Tryz.prog w = .ok (.func (.func 137) #[] #[]) w := fun _ => by kernel_rfl
        by_cases hz : S = 0
        · have HZ2 : Hid (∀ j, j < 1 → (cmpsS a b).getD j 0 = 0) := fun j hj => by
            by_cases h : j < 0
            · exact HZ.out j h
            · obtain rfl : j = 0 := by omega
              rw [← HS.out]; exact hz
          subst hz
          have HC2 := HC.out wr hb1
          have HC3 : Hid (Calls Tryz.prog 137 #[.agg a.cells, .agg b.cells] wr fun r w' => r = .returned (.int .i64 0) ∧ BelowD wr.heap.size wr w') := HC2
          clear HC HC2 HS
          simp only [EntD.cells] at bxa bxb HC3
          go_wp2_with fail
          refine HC3.out.mono ?_
          rintro e2 w2 ⟨rfl, hb2⟩
          have B2 := hb1.trans (hb2.mono hb1.size)
          have bxa2 := BXA.out.later hb2.b
          have bxb2 := BXB.out.later hb2.b
          go_wp2
          go_roundw
          case rel => exact ⟨1, by omega, by go_num, HZ2.out, bxa2, bxb2, B2⟩
          case measure => simp [intOf]
        · have HR : Hid (compareS a b = S) := by unfold Hid compareS; rw [firstNZ_at _ 0 HZ.out (by rw [← HS.out]; exact hz), HS.out]
          have hz1 : (S != 0) = true := by simp; exact hz
          have HC2 := HC.out wr hb1
          have HC3 : Hid (Calls Tryz.prog 137 #[.agg a.cells, .agg b.cells] wr fun r w' => r = .returned (.int .i64 S) ∧ BelowD wr.heap.size wr w') := HC2
          clear HC HC2 HS
          simp only [EntD.cells] at bxa bxb HC3
          go_wp2_with fail
          refine HC3.out.mono ?_
          rintro e2 w2 ⟨rfl, hb2⟩
          have B2 := hb1.trans (hb2.mono hb1.size)
          go_wp2
          go_ret
          exact ⟨by rw [HR.out]; rfl, B2⟩
      · have HC : Hid (∀ w2, BelowD w.heap.size w w2 → Calls Tryz.prog 139 #[.agg a.cells, .agg b.cells] w2 fun r w' => r = .returned (.int .i64 S) ∧ BelowD w2.heap.size w2 w') := fun w2 h2 => by rw [HS.out]; exact ord2_d (HA.out.later h2.b) (HB.out.later h2.b)
        have hidx : ∀ w, (Instr.index 167 (.agg #[.func (.func 137) #[] #[], .func (.func 139) #[] #[], .func (.func 141) #[] #[], .func (.func 143) #[] #[], .func (.func 144) #[] #[], .func (.func 145) #[] #[], .func (.func 146) #[] #[], .func (.func 147) #[] #[]]) (.int .i64 1)).run Tryz.prog w = .ok (.func (.func 139) #[] #[]) w := fun _ => by kernel_rfl
        by_cases hz : S = 0
        · have HZ2 : Hid (∀ j, j < 2 → (cmpsS a b).getD j 0 = 0) := fun j hj => by
            by_cases h : j < 1
            · exact HZ.out j h
            · obtain rfl : j = 1 := by omega
              rw [← HS.out]; exact hz
          subst hz
          have HC2 := HC.out wr hb1
          have HC3 : Hid (Calls Tryz.prog 139 #[.agg a.cells, .agg b.cells] wr fun r w' => r = .returned (.int .i64 0) ∧ BelowD wr.heap.size wr w') := HC2
          clear HC HC2 HS
          simp only [EntD.cells] at bxa bxb HC3
          go_wp2_with fail
          refine HC3.out.mono ?_
          rintro e2 w2 ⟨rfl, hb2⟩
          have B2 := hb1.trans (hb2.mono hb1.size)
          have bxa2 := BXA.out.later hb2.b
          have bxb2 := BXB.out.later hb2.b
          go_wp2
          go_roundw
          case rel => exact ⟨2, by omega, by go_num, HZ2.out, bxa2, bxb2, B2⟩
          case measure => simp [intOf]
        · have HR : Hid (compareS a b = S) := by unfold Hid compareS; rw [firstNZ_at _ 1 HZ.out (by rw [← HS.out]; exact hz), HS.out]
          have hz1 : (S != 0) = true := by simp; exact hz
          have HC2 := HC.out wr hb1
          have HC3 : Hid (Calls Tryz.prog 139 #[.agg a.cells, .agg b.cells] wr fun r w' => r = .returned (.int .i64 S) ∧ BelowD wr.heap.size wr w') := HC2
          clear HC HC2 HS
          simp only [EntD.cells] at bxa bxb HC3
          go_wp2_with fail
          refine HC3.out.mono ?_
          rintro e2 w2 ⟨rfl, hb2⟩
          have B2 := hb1.trans (hb2.mono hb1.size)
          go_wp2
          go_ret
          exact ⟨by rw [HR.out]; rfl, B2⟩
      · have HC : Hid (∀ w2, BelowD w.heap.size w w2 → Calls Tryz.prog 141 #[.agg a.cells, .agg b.cells] w2 fun r w' => r = .returned (.int .i64 S) ∧ BelowD w2.heap.size w2 w') := fun w2 h2 => by rw [HS.out]; exact ord3_d (HA.out.later h2.b) (HB.out.later h2.b)
        have hidx : ∀ w, (Instr.index 167 (.agg #[.func (.func 137) #[] #[], .func (.func 139) #[] #[], .func (.func 141) #[] #[], .func (.func 143) #[] #[], .func (.func 144) #[] #[], .func (.func 145) #[] #[], .func (.func 146) #[] #[], .func (.func 147) #[] #[]]) (.int .i64 2)).run Tryz.prog w = .ok (.func (.func 141) #[] #[]) w := fun _ => by kernel_rfl
        by_cases hz : S = 0
        · have HZ2 : Hid (∀ j, j < 3 → (cmpsS a b).getD j 0 = 0) := fun j hj => by
            by_cases h : j < 2
            · exact HZ.out j h
            · obtain rfl : j = 2 := by omega
              rw [← HS.out]; exact hz
          subst hz
          have HC2 := HC.out wr hb1
          have HC3 : Hid (Calls Tryz.prog 141 #[.agg a.cells, .agg b.cells] wr fun r w' => r = .returned (.int .i64 0) ∧ BelowD wr.heap.size wr w') := HC2
          clear HC HC2 HS
          simp only [EntD.cells] at bxa bxb HC3
          go_wp2_with fail
          refine HC3.out.mono ?_
          rintro e2 w2 ⟨rfl, hb2⟩
          have B2 := hb1.trans (hb2.mono hb1.size)
          have bxa2 := BXA.out.later hb2.b
          have bxb2 := BXB.out.later hb2.b
          go_wp2
          go_roundw
          case rel => exact ⟨3, by omega, by go_num, HZ2.out, bxa2, bxb2, B2⟩
          case measure => simp [intOf]
        · have HR : Hid (compareS a b = S) := by unfold Hid compareS; rw [firstNZ_at _ 2 HZ.out (by rw [← HS.out]; exact hz), HS.out]
          have hz1 : (S != 0) = true := by simp; exact hz
          have HC2 := HC.out wr hb1
          have HC3 : Hid (Calls Tryz.prog 141 #[.agg a.cells, .agg b.cells] wr fun r w' => r = .returned (.int .i64 S) ∧ BelowD wr.heap.size wr w') := HC2
          clear HC HC2 HS
          simp only [EntD.cells] at bxa bxb HC3
          go_wp2_with fail
          refine HC3.out.mono ?_
          rintro e2 w2 ⟨rfl, hb2⟩
          have B2 := hb1.trans (hb2.mono hb1.size)
          go_wp2
          go_ret
          exact ⟨by rw [HR.out]; rfl, B2⟩
      · have HC : Hid (∀ w2, BelowD w.heap.size w w2 → Calls Tryz.prog 143 #[.agg a.cells, .agg b.cells] w2 fun r w' => r = .returned (.int .i64 S) ∧ BelowD w2.heap.size w2 w') := fun w2 h2 => by rw [HS.out]; exact ord4_d (HA.out.later h2.b) (HB.out.later h2.b)
        have hidx : ∀ w, (Instr.index 167 (.agg #[.func (.func 137) #[] #[], .func (.func 139) #[] #[], .func (.func 141) #[] #[], .func (.func 143) #[] #[], .func (.func 144) #[] #[], .func (.func 145) #[] #[], .func (.func 146) #[] #[], .func (.func 147) #[] #[]]) (.int .i64 3)).run Tryz.prog w = .ok (.func (.func 143) #[] #[]) w := fun _ => by kernel_rfl
        by_cases hz : S = 0
        · have HZ2 : Hid (∀ j, j < 4 → (cmpsS a b).getD j 0 = 0) := fun j hj => by
            by_cases h : j < 3
            · exact HZ.out j h
            · obtain rfl : j = 3 := by omega
              rw [← HS.out]; exact hz
          subst hz
          have HC2 := HC.out wr hb1
          have HC3 : Hid (Calls Tryz.prog 143 #[.agg a.cells, .agg b.cells] wr fun r w' => r = .returned (.int .i64 0) ∧ BelowD wr.heap.size wr w') := HC2
          clear HC HC2 HS
          simp only [EntD.cells] at bxa bxb HC3
          go_wp2_with fail
          refine HC3.out.mono ?_
          rintro e2 w2 ⟨rfl, hb2⟩
          have B2 := hb1.trans (hb2.mono hb1.size)
          have bxa2 := BXA.out.later hb2.b
          have bxb2 := BXB.out.later hb2.b
          go_wp2
          go_roundw
          case rel => exact ⟨4, by omega, by go_num, HZ2.out, bxa2, bxb2, B2⟩
          case measure => simp [intOf]
        · have HR : Hid (compareS a b = S) := by unfold Hid compareS; rw [firstNZ_at _ 3 HZ.out (by rw [← HS.out]; exact hz), HS.out]
          have hz1 : (S != 0) = true := by simp; exact hz
          have HC2 := HC.out wr hb1
          have HC3 : Hid (Calls Tryz.prog 143 #[.agg a.cells, .agg b.cells] wr fun r w' => r = .returned (.int .i64 S) ∧ BelowD wr.heap.size wr w') := HC2
          clear HC HC2 HS
          simp only [EntD.cells] at bxa bxb HC3
          go_wp2_with fail
          refine HC3.out.mono ?_
          rintro e2 w2 ⟨rfl, hb2⟩
          have B2 := hb1.trans (hb2.mono hb1.size)
          go_wp2
          go_ret
          exact ⟨by rw [HR.out]; rfl, B2⟩
      · have HC : Hid (∀ w2, BelowD w.heap.size w w2 → Calls Tryz.prog 144 #[.agg a.cells, .agg b.cells] w2 fun r w' => r = .returned (.int .i64 S) ∧ BelowD w2.heap.size w2 w') := fun w2 h2 => by rw [HS.out]; exact ord5_d (HA.out.later h2.b) (HB.out.later h2.b)
        have hidx : ∀ w, (Instr.index 167 (.agg #[.func (.func 137) #[] #[], .func (.func 139) #[] #[], .func (.func 141) #[] #[], .func (.func 143) #[] #[], .func (.func 144) #[] #[], .func (.func 145) #[] #[], .func (.func 146) #[] #[], .func (.func 147) #[] #[]]) (.int .i64 4)).run Tryz.prog w = .ok (.func (.func 144) #[] #[]) w := fun _ => by kernel_rfl
        by_cases hz : S = 0
        · have HZ2 : Hid (∀ j, j < 5 → (cmpsS a b).getD j 0 = 0) := fun j hj => by
            by_cases h : j < 4
            · exact HZ.out j h
            · obtain rfl : j = 4 := by omega
              rw [← HS.out]; exact hz
          subst hz
          have HC2 := HC.out wr hb1
          have HC3 : Hid (Calls Tryz.prog 144 #[.agg a.cells, .agg b.cells] wr fun r w' => r = .returned (.int .i64 0) ∧ BelowD wr.heap.size wr w') := HC2
          clear HC HC2 HS
          simp only [EntD.cells] at bxa bxb HC3
          go_wp2_with fail
          refine HC3.out.mono ?_
          rintro e2 w2 ⟨rfl, hb2⟩
          have B2 := hb1.trans (hb2.mono hb1.size)
          have bxa2 := BXA.out.later hb2.b
          have bxb2 := BXB.out.later hb2.b
          go_wp2
          go_roundw
          case rel => exact ⟨5, by omega, by go_num, HZ2.out, bxa2, bxb2, B2⟩
          case measure => simp [intOf]
        · have HR : Hid (compareS a b = S) := by unfold Hid compareS; rw [firstNZ_at _ 4 HZ.out (by rw [← HS.out]; exact hz), HS.out]
          have hz1 : (S != 0) = true := by simp; exact hz
          have HC2 := HC.out wr hb1
          have HC3 : Hid (Calls Tryz.prog 144 #[.agg a.cells, .agg b.cells] wr fun r w' => r = .returned (.int .i64 S) ∧ BelowD wr.heap.size wr w') := HC2
          clear HC HC2 HS
          simp only [EntD.cells] at bxa bxb HC3
          go_wp2_with fail
          refine HC3.out.mono ?_
          rintro e2 w2 ⟨rfl, hb2⟩
          have B2 := hb1.trans (hb2.mono hb1.size)
          go_wp2
          go_ret
          exact ⟨by rw [HR.out]; rfl, B2⟩
      · have HC : Hid (∀ w2, BelowD w.heap.size w w2 → Calls Tryz.prog 145 #[.agg a.cells, .agg b.cells] w2 fun r w' => r = .returned (.int .i64 S) ∧ BelowD w2.heap.size w2 w') := fun w2 h2 => by rw [HS.out]; exact ord6_d (HA.out.later h2.b) (HB.out.later h2.b)
        have hidx : ∀ w, (Instr.index 167 (.agg #[.func (.func 137) #[] #[], .func (.func 139) #[] #[], .func (.func 141) #[] #[], .func (.func 143) #[] #[], .func (.func 144) #[] #[], .func (.func 145) #[] #[], .func (.func 146) #[] #[], .func (.func 147) #[] #[]]) (.int .i64 5)).run Tryz.prog w = .ok (.func (.func 145) #[] #[]) w := fun _ => by kernel_rfl
        by_cases hz : S = 0
        · have HZ2 : Hid (∀ j, j < 6 → (cmpsS a b).getD j 0 = 0) := fun j hj => by
            by_cases h : j < 5
            · exact HZ.out j h
            · obtain rfl : j = 5 := by omega
              rw [← HS.out]; exact hz
          subst hz
          have HC2 := HC.out wr hb1
          have HC3 : Hid (Calls Tryz.prog 145 #[.agg a.cells, .agg b.cells] wr fun r w' => r = .returned (.int .i64 0) ∧ BelowD wr.heap.size wr w') := HC2
          clear HC HC2 HS
          simp only [EntD.cells] at bxa bxb HC3
          go_wp2_with fail
          refine HC3.out.mono ?_
          rintro e2 w2 ⟨rfl, hb2⟩
          have B2 := hb1.trans (hb2.mono hb1.size)
          have bxa2 := BXA.out.later hb2.b
          have bxb2 := BXB.out.later hb2.b
          go_wp2
          go_roundw
          case rel => exact ⟨6, by omega, by go_num, HZ2.out, bxa2, bxb2, B2⟩
          case measure => simp [intOf]
        · have HR : Hid (compareS a b = S) := by unfold Hid compareS; rw [firstNZ_at _ 5 HZ.out (by rw [← HS.out]; exact hz), HS.out]
          have hz1 : (S != 0) = true := by simp; exact hz
          have HC2 := HC.out wr hb1
          have HC3 : Hid (Calls Tryz.prog 145 #[.agg a.cells, .agg b.cells] wr fun r w' => r = .returned (.int .i64 S) ∧ BelowD wr.heap.size wr w') := HC2
          clear HC HC2 HS
          simp only [EntD.cells] at bxa bxb HC3
          go_wp2_with fail
          refine HC3.out.mono ?_
          rintro e2 w2 ⟨rfl, hb2⟩
          have B2 := hb1.trans (hb2.mono hb1.size)
          go_wp2
          go_ret
          exact ⟨by rw [HR.out]; rfl, B2⟩
      · have HC : Hid (∀ w2, BelowD w.heap.size w w2 → Calls Tryz.prog 146 #[.agg a.cells, .agg b.cells] w2 fun r w' => r = .returned (.int .i64 S) ∧ BelowD w2.heap.size w2 w') := fun w2 h2 => by rw [HS.out]; exact ord7_d (HA.out.later h2.b) (HB.out.later h2.b)
        have hidx : ∀ w, (Instr.index 167 (.agg #[.func (.func 137) #[] #[], .func (.func 139) #[] #[], .func (.func 141) #[] #[], .func (.func 143) #[] #[], .func (.func 144) #[] #[], .func (.func 145) #[] #[], .func (.func 146) #[] #[], .func (.func 147) #[] #[]]) (.int .i64 6)).run Tryz.prog w = .ok (.func (.func 146) #[] #[]) w := fun _ => by kernel_rfl
        by_cases hz : S = 0
        · have HZ2 : Hid (∀ j, j < 7 → (cmpsS a b).getD j 0 = 0) := fun j hj => by
            by_cases h : j < 6
            · exact HZ.out j h
            · obtain rfl : j = 6 := by omega
              rw [← HS.out]; exact hz
          subst hz
          have HC2 := HC.out wr hb1
          have HC3 : Hid (Calls Tryz.prog 146 #[.agg a.cells, .agg b.cells] wr fun r w' => r = .returned (.int .i64 0) ∧ BelowD wr.heap.size wr w') := HC2
          clear HC HC2 HS
          simp only [EntD.cells] at bxa bxb HC3
          go_wp2_with fail
          refine HC3.out.mono ?_
          rintro e2 w2 ⟨rfl, hb2⟩
          have B2 := hb1.trans (hb2.mono hb1.size)
          have bxa2 := BXA.out.later hb2.b
          have bxb2 := BXB.out.later hb2.b
          go_wp2
          go_roundw
          case rel => exact ⟨7, by omega, by go_num, HZ2.out, bxa2, bxb2, B2⟩
          case measure => simp [intOf]
        · have HR : Hid (compareS a b = S) := by unfold Hid compareS; rw [firstNZ_at _ 6 HZ.out (by rw [← HS.out]; exact hz), HS.out]
          have hz1 : (S != 0) = true := by simp; exact hz
          have HC2 := HC.out wr hb1
          have HC3 : Hid (Calls Tryz.prog 146 #[.agg a.cells, .agg b.cells] wr fun r w' => r = .returned (.int .i64 S) ∧ BelowD wr.heap.size wr w') := HC2
          clear HC HC2 HS
          simp only [EntD.cells] at bxa bxb HC3
          go_wp2_with fail
          refine HC3.out.mono ?_
          rintro e2 w2 ⟨rfl, hb2⟩
          have B2 := hb1.trans (hb2.mono hb1.size)
          go_wp2
          go_ret
          exact ⟨by rw [HR.out]; rfl, B2⟩
      · have HC : Hid (∀ w2, BelowD w.heap.size w w2 → Calls Tryz.prog 147 #[.agg a.cells, .agg b.cells] w2 fun r w' => r = .returned (.int .i64 S) ∧ BelowD w2.heap.size w2 w') := fun w2 h2 => by rw [HS.out]; exact ord8_d (HA.out.later h2.b) (HB.out.later h2.b)
        have hidx : ∀ w, (Instr.index 167 (.agg #[.func (.func 137) #[] #[], .func (.func 139) #[] #[], .func (.func 141) #[] #[], .func (.func 143) #[] #[], .func (.func 144) #[] #[], .func (.func 145) #[] #[], .func (.func 146) #[] #[], .func (.func 147) #[] #[]]) (.int .i64 7)).run Tryz.prog w = .ok (.func (.func 147) #[] #[]) w := fun _ => by kernel_rfl
        by_cases hz : S = 0
        · have HZ2 : Hid (∀ j, j < 8 → (cmpsS a b).getD j 0 = 0) := fun j hj => by
            by_cases h : j < 7
            · exact HZ.out j h
            · obtain rfl : j = 7 := by omega
              rw [← HS.out]; exact hz
          subst hz
          have HC2 := HC.out wr hb1
          have HC3 : Hid (Calls Tryz.prog 147 #[.agg a.cells, .agg b.cells] wr fun r w' => r = .returned (.int .i64 0) ∧ BelowD wr.heap.size wr w') := HC2
          clear HC HC2 HS
          simp only [EntD.cells] at bxa bxb HC3
          go_wp2_with fail
          refine HC3.out.mono ?_
          rintro e2 w2 ⟨rfl, hb2⟩
          have B2 := hb1.trans (hb2.mono hb1.size)
          have bxa2 := BXA.out.later hb2.b
          have bxb2 := BXB.out.later hb2.b
          go_wp2
          go_roundw
          case rel => exact ⟨8, by omega, by go_num, HZ2.out, bxa2, bxb2, B2⟩
          case measure => simp [intOf]
        · have HR : Hid (compareS a b = S) := by unfold Hid compareS; rw [firstNZ_at _ 7 HZ.out (by rw [← HS.out]; exact hz), HS.out]
          have hz1 : (S != 0) = true := by simp; exact hz
          have HC2 := HC.out wr hb1
          have HC3 : Hid (Calls Tryz.prog 147 #[.agg a.cells, .agg b.cells] wr fun r w' => r = .returned (.int .i64 S) ∧ BelowD wr.heap.size wr w') := HC2
          clear HC HC2 HS
          simp only [EntD.cells] at bxa bxb HC3
          go_wp2_with fail
          refine HC3.out.mono ?_
          rintro e2 w2 ⟨rfl, hb2⟩
          have B2 := hb1.trans (hb2.mono hb1.size)
          go_wp2
          go_ret
          exact ⟨by rw [HR.out]; rfl, B2⟩
    · have hge : (8 : Int) ≤ (t : Int) := by omega
      have HR : Hid (compareS a b = 0) := by unfold Hid compareS; exact firstNZ_none _ (fun j hj => HZ.out j (by have : (cmpsS a b).length = 8 := rfl; omega))
      clear hlt
      go_wp2
      go_ret
      exact ⟨by rw [HR.out]; rfl, hb1⟩

end Go.Proofs.YthhkpkfpifllkaaGreat


namespace Go.Proofs.YthhkpkfpifllkaaGreat
open Go.RowKit
set_option linter.unusedVariables false

def laidSort : Go.Shelf.Ren := ⟨fun | 6 => 80 | 14 => 109 | 15 => 110 | 20 => 127 | 21 => 128 | 22 => 129 | 23 => 130 | 24 => 131 | 25 => 132 | 26 => 133 | 27 => 134 | 28 => 135 | 29 => 136 | 46 => 149 | 47 => 150 | 48 => 151 | 49 => 152 | 50 => 153 | 57 => 160 | n => n, fun | 0 => 0 | 3 => 3 | 4 => 4 | 5 => 5 | 9 => 9 | 22 => 28 | 24 => 84 | 25 => 134 | 39 => 165 | 45 => 177 | 46 => 178 | 50 => 117 | 53 => 184 | 55 => 186 | 66 => 188 | 70 => 192 | 76 => 197 | 77 => 54 | n => n, fun n => n⟩
set_option maxRecDepth 100000 in
theorem laysSort : SlLaysF0.n6 Tryz.prog laidSort := {
  mixed := by kernel_rfl,
  f6 := ⟨ "slices.SortFunc[[]strata/api.Entry,strata/api.Entry]", by decide, Tryz.func80.trans (congrArg some (by kernel_rfl))⟩,
  f14 := ⟨ "slices.pdqsortCmpFunc[strata/api.Entry]", by decide, Tryz.func109.trans (congrArg some (by kernel_rfl))⟩,
  f15 := Tryz.func110.trans (congrArg some (by kernel_rfl)),
  f20 := ⟨ "slices.insertionSortCmpFunc[strata/api.Entry]", by decide, Tryz.func127.trans (congrArg some (by kernel_rfl))⟩,
  f21 := ⟨ "slices.heapSortCmpFunc[strata/api.Entry]", by decide, Tryz.func128.trans (congrArg some (by kernel_rfl))⟩,
  f22 := ⟨ "slices.breakPatternsCmpFunc[strata/api.Entry]", by decide, Tryz.func129.trans (congrArg some (by kernel_rfl))⟩,
  f23 := ⟨ "slices.choosePivotCmpFunc[strata/api.Entry]", by decide, Tryz.func130.trans (congrArg some (by kernel_rfl))⟩,
  f24 := ⟨ "slices.reverseRangeCmpFunc[strata/api.Entry]", by decide, Tryz.func131.trans (congrArg some (by kernel_rfl))⟩,
  f25 := ⟨ "slices.partialInsertionSortCmpFunc[strata/api.Entry]", by decide, Tryz.func132.trans (congrArg some (by kernel_rfl))⟩,
  f26 := ⟨ "slices.partitionEqualCmpFunc[strata/api.Entry]", by decide, Tryz.func133.trans (congrArg some (by kernel_rfl))⟩,
  f27 := ⟨ "slices.partitionCmpFunc[strata/api.Entry]", by decide, Tryz.func134.trans (congrArg some (by kernel_rfl))⟩,
  f28 := Tryz.func135.trans (congrArg some (by kernel_rfl)),
  f29 := Tryz.func136.trans (congrArg some (by kernel_rfl)),
  f46 := ⟨ "slices.siftDownCmpFunc[strata/api.Entry]", by decide, Tryz.func149.trans (congrArg some (by kernel_rfl))⟩,
  f47 := Tryz.func150.trans (congrArg some (by kernel_rfl)),
  f48 := Tryz.func151.trans (congrArg some (by kernel_rfl)),
  f49 := ⟨ "slices.medianAdjacentCmpFunc[strata/api.Entry]", by decide, Tryz.func152.trans (congrArg some (by kernel_rfl))⟩,
  f50 := ⟨ "slices.medianCmpFunc[strata/api.Entry]", by decide, Tryz.func153.trans (congrArg some (by kernel_rfl))⟩,
  f57 := ⟨ "slices.order2CmpFunc[strata/api.Entry]", by decide, Tryz.func160.trans (congrArg some (by kernel_rfl))⟩,
  t0 := Tryz.underlying0,
  a0 := Tryz.isAgg0,
  z0 := Tryz.sizeOf0,
  v0 := Tryz.zeroValue0,
  t3 := Tryz.underlying3,
  a3 := Tryz.isAgg3,
  z3 := Tryz.sizeOf3,
  v3 := Tryz.zeroValue3,
  t4 := Tryz.underlying4,
  a4 := Tryz.isAgg4,
  z4 := Tryz.sizeOf4,
  v4 := Tryz.zeroValue4,
  t5 := Tryz.underlying5,
  a5 := Tryz.isAgg5,
  z5 := Tryz.sizeOf5,
  v5 := Tryz.zeroValue5,
  t9 := Tryz.underlying9,
  a9 := Tryz.isAgg9,
  z9 := Tryz.sizeOf9,
  v9 := Tryz.zeroValue9,
  t22 := Tryz.underlying28,
  a22 := Tryz.isAgg28,
  z22 := Tryz.sizeOf28,
  v22 := Tryz.zeroValue28,
  t25 := Tryz.underlying134,
  a25 := Tryz.isAgg134,
  z25 := Tryz.sizeOf134,
  v25 := Tryz.zeroValue134,
  t39 := Tryz.underlying165,
  a39 := Tryz.isAgg165,
  z39 := Tryz.sizeOf165,
  v39 := Tryz.zeroValue165,
  t45 := Tryz.underlying177,
  a45 := Tryz.isAgg177,
  z45 := Tryz.sizeOf177,
  v45 := Tryz.zeroValue177,
  t46 := Tryz.underlying178,
  a46 := Tryz.isAgg178,
  z46 := Tryz.sizeOf178,
  v46 := Tryz.zeroValue178,
  t50 := Tryz.underlying117,
  a50 := Tryz.isAgg117,
  z50 := Tryz.sizeOf117,
  v50 := Tryz.zeroValue117,
  t53 := Tryz.underlying184,
  a53 := Tryz.isAgg184,
  z53 := Tryz.sizeOf184,
  v53 := Tryz.zeroValue184,
  t55 := Tryz.underlying186,
  a55 := Tryz.isAgg186,
  z55 := Tryz.sizeOf186,
  v55 := Tryz.zeroValue186,
  t66 := Tryz.underlying188,
  a66 := Tryz.isAgg188,
  z66 := Tryz.sizeOf188,
  v66 := Tryz.zeroValue188,
  t70 := Tryz.underlying192,
  a70 := Tryz.isAgg192,
  z70 := Tryz.sizeOf192,
  v70 := Tryz.zeroValue192,
  t76 := Tryz.underlying197,
  a76 := Tryz.isAgg197,
  z76 := Tryz.sizeOf197,
  v76 := Tryz.zeroValue197,
  t77 := Tryz.underlying54,
  a77 := Tryz.isAgg54,
  z77 := Tryz.sizeOf54,
  v77 := Tryz.zeroValue54 }
end Go.Proofs.YthhkpkfpifllkaaGreat

namespace Go.Proofs.YthhkpkfpifllkaaGreat
open Go.RowKit
set_option linter.unusedVariables false

abbrev EA (Z : World) : Type := { x : EntD // EntD.Ok Z x }
def eaZ (Z : World) : EA Z := ⟨⟨.slice none 0 0, 0, .slice none 0 0, 0, 0, 0, .slice none 0 0, [], [], []⟩, by
  have : Rd Z (.slice none 0 0) [] := ⟨(fun x hx => by cases hx), none, 0, rfl, Nat.le_refl _, Nat.zero_le _, Nat.zero_le _, .inl rfl, .inl rfl⟩
  exact ⟨this, this, this⟩⟩
instance (Z : World) : Inhabited (EA Z) := ⟨eaZ Z⟩
def encA (Z : World) (x : EA Z) : List Value := x.1.cells.toList
def cfA (Z : World) (x y : EA Z) : Int := compareS x.1 y.1
theorem swo_cfA (Z : World) : Go.Sort.SWO (ltOf (cfA Z)) := by
  refine ⟨fun x => ?_, fun x y z h k => ?_, fun x y z h k => ?_⟩
  · simp [ltOf, cfA, compareS_self]
  · have h1 : compareS x.1 y.1 < 0 := of_decide_eq_true h
    have k1 : compareS y.1 z.1 < 0 := of_decide_eq_true k
    have := compareS_tri x.1 y.1 z.1
    unfold Tri at this
    exact decide_eq_true (p := compareS x.1 z.1 < 0) (by omega)
  · have h1 : ¬ compareS x.1 y.1 < 0 := of_decide_eq_false h
    have k1 : ¬ compareS y.1 z.1 < 0 := of_decide_eq_false k
    have := compareS_tri x.1 y.1 z.1
    unfold Tri at this
    exact decide_eq_false (p := compareS x.1 z.1 < 0) (by omega)
theorem encA_one (Z : World) (x : EA Z) : ∀ v ∈ encA Z x, v.oneCell' = true := by
  obtain ⟨⟨vr, fam, vq, ts, seq, kind, vv, row, qual, val⟩, r1, r2, r3⟩ := x
  obtain ⟨_, a1, c1, e1, _⟩ := r1
  obtain ⟨_, a2, c2, e2, _⟩ := r2
  obtain ⟨_, a3, c3, e3, _⟩ := r3
  simp only at e1 e2 e3
  subst e1 e2 e3
  intro v hv
  simp only [encA, EntD.cells, List.mem_cons, List.not_mem_nil, or_false] at hv
  rcases hv with rfl | rfl | rfl | rfl | rfl | rfl | rfl <;> rfl
theorem encA_no8 (Z : World) (x : EA Z) (j : Nat) (n : Int) : (encA Z x)[j]? ≠ some (.int .u8 n) := by
  intro h
  have hv := List.mem_of_getElem? h
  obtain ⟨⟨vr, fam, vq, ts, seq, kind, vv, row, qual, val⟩, r1, r2, r3⟩ := x
  obtain ⟨_, a1, c1, e1, _⟩ := r1
  obtain ⟨_, a2, c2, e2, _⟩ := r2
  obtain ⟨_, a3, c3, e3, _⟩ := r3
  simp only at e1 e2 e3
  subst e1 e2 e3
  simp [encA, EntD.cells] at hv
theorem cell_sort {Z : World} {blk off m : Nat} {d dk : Array (EA Z)} {os : Array Obj} (hH : Go.Sort.HoldsK (encA Z) 7 Z blk off d) (hs : dk.size = d.size) {b o : Nat} {n : Int} (hc : Z.cell? ⟨b, o, none⟩ = some (.int .u8 n)) : (sortWorldK (encA Z) 7 Z blk off m dk os).cell? ⟨b, o, none⟩ = some (.int .u8 n) := by
  have lt := World.block_lt_of_cell? Z _ hc
  have hout : b ≠ blk ∨ o < off ∨ off + (Go.Sort.flatK (encA Z) 7 dk).size ≤ o := by
    rw [Go.Sort.size_flatK]
    apply Classical.byContradiction
    intro hn
    have h1 : b = blk := by omega
    have h2 : off ≤ o := by omega
    have h3 : o < off + dk.size * 7 := by omega
    have hj : o - off < d.size * 7 := by omega
    have := (hH (o - off) (by rw [Go.Sort.size_flatK]; exact hj)).1
    rw [Go.Sort.get_flatK _ _ _ _ hj, show off + (o - off) = o by omega, ← h1, hc] at this
    have h4 : (encA Z d[(o - off) / 7]!).length = 7 := rfl
    have h5 : (o - off) % 7 < 7 := Nat.mod_lt _ (by omega)
    refine encA_no8 Z d[(o - off) / 7]! ((o - off) % 7) n ?_
    rw [this]
    show _ = some ((encA Z d[(o - off) / 7]!)[(o - off) % 7]!)
    rw [List.getElem!_eq_getElem?_getD, List.getElem?_eq_getElem (by rw [h4]; exact h5)]
    rfl
  unfold sortWorldK Go.Sort.putRowK
  rw [Go.Sort.cell?_grow _ _ _ (by rw [Go.Sort.size_putRow]; exact lt), Go.Sort.cell?_putRow_other _ _ _ _ _ _ hout]
  exact hc
theorem Rd.sort {Z : World} {blk off m : Nat} {d dk : Array (EA Z)} {os : Array Obj} (hH : Go.Sort.HoldsK (encA Z) 7 Z blk off d) (hs : dk.size = d.size) {x : Value} {bs : List Nat} (r : Rd Z x bs) : Rd (sortWorldK (encA Z) 7 Z blk off m dk os) x bs := by
  obtain ⟨h1, a, cap, rfl, h3, h4, h5, h6, h7⟩ := r
  refine ⟨h1, a, cap, rfl, h3, h4, h5, h6, ?_⟩
  rcases h7 with h7 | ⟨b, o, rfl, hc⟩
  · exact .inl h7
  · exact .inr ⟨b, o, rfl, fun i hi => cell_sort hH hs (hc i hi)⟩
theorem world_grow {W w' : World} (h : BelowD W.heap.size W w') : ∃ q os', w' = Go.Sort.grow (W.drewN q) os' := by
  refine ⟨w'.drawn - W.drawn, w'.heap.extract W.heap.size w'.heap.size, ?_⟩
  have hd := h.d
  have hsz := h.b.size
  have hh : w'.heap = W.heap ++ w'.heap.extract W.heap.size w'.heap.size := by
    apply Array.ext_getElem?
    intro i
    by_cases hi : i < W.heap.size
    · rw [Array.getElem?_append_left hi]
      exact h.b.block i hi
    · rw [Array.getElem?_append_right (by omega), Array.getElem?_extract]
      by_cases h2 : i < w'.heap.size
      · rw [if_pos (by omega), show W.heap.size + (i - W.heap.size) = i by omega]
      · rw [if_neg (by omega), Array.getElem?_eq_none (by omega)]
  have e1 := h.b.os
  have e2 := h.b.tape
  have e3 := h.b.output
  obtain ⟨hp, tp, dr, os, ou⟩ := w'
  simp only at *
  unfold Go.Sort.grow World.drewN
  simp only [World.mk.injEq]
  exact ⟨hh, e2, by omega, e1, e3⟩
theorem cmp_lays {Z : World} {blk off : Nat} {d : Array (EA Z)} (hH : Go.Sort.HoldsK (encA Z) 7 Z blk off d) : CmpLays Tryz.prog 81 #[] (encA Z) 7 (cfA Z) blk off d.size Z := by
  intro m os dk hs x y
  have e : (#[.agg (encA Z x).toArray, .agg (encA Z y).toArray] ++ #[] : Array Value) = #[.agg x.1.cells, .agg y.1.cells] := by simp [encA]
  rw [e]
  refine Calls.mono (compare_d ⟨x.2.1.sort hH hs, x.2.2.1.sort hH hs, x.2.2.2.sort hH hs⟩ ⟨y.2.1.sort hH hs, y.2.2.1.sort hH hs, y.2.2.2.sort hH hs⟩) ?_
  rintro r w' ⟨rfl, hb⟩
  exact ⟨rfl, world_grow hb⟩
end Go.Proofs.YthhkpkfpifllkaaGreat

namespace Go.Proofs.YthhkpkfpifllkaaGreat
open Go.RowKit
set_option linter.unusedVariables false

theorem flat_evals {Z : World} (d : Array (EA Z)) : Go.Sort.flatK (encA Z) 7 d = (evals (d.toList.map Subtype.val)).toArray := by
  refine Go.Sort.ext_get! (by simp [evals_len]) fun t ht => ?_
  rw [Go.Sort.size_flatK] at ht
  rw [Go.Sort.get_flatK _ _ _ _ ht]
  have h1 : t / 7 < d.size := by omega
  have h5 : t % 7 < 7 := Nat.mod_lt _ (by omega)
  have e1 : (d.toList.map Subtype.val)[t / 7]? = some (d[t / 7]!).1 := by
    rw [List.getElem?_map, Array.getElem?_toList, Array.getElem?_eq_getElem h1, getElem!_pos d _ h1]
    rfl
  have e2 : (d[t / 7]!).1.cells.toList[t % 7]? = some ((encA Z d[t / 7]!)[t % 7]!) := by
    show (encA Z d[t / 7]!)[t % 7]? = _
    rw [List.getElem!_eq_getElem?_getD, List.getElem?_eq_getElem (by exact h5)]
    rfl
  have := evals_at e1 e2
  rw [show t / 7 * 7 + t % 7 = t by omega] at this
  have hl := (List.getElem?_eq_some_iff.1 this)
  rw [getElem!_pos (evals (d.toList.map Subtype.val)).toArray t (by rw [List.size_toArray]; exact hl.1)]
  exact hl.2.symm
theorem heap_sort {Z : World} {g n : Nat} {d' : Array (EA Z)} {os : Array Obj} {cur : Array Value} {ty : TypeId} {fr : Nat × Nat} (hg : Z.heap[g]? = some (.cells cur ty fr)) : (sortWorldK (encA Z) 7 Z g 0 n d' os).heap[g]? = some (.cells (Go.Sort.putCells id 0 (Go.Sort.flatK (encA Z) 7 d') cur) ty fr) := by
  have lt : g < Z.heap.size := (Array.getElem?_eq_some_iff.1 hg).1
  unfold sortWorldK Go.Sort.putRowK Go.Sort.putRow
  rw [Go.Sort.heap_grow_old _ _ (by show g < (Z.heap.modify g _).size; rw [Array.size_modify]; exact lt)]
  show (Z.heap.modify g _)[g]? = _
  rw [Array.getElem?_modify, if_pos rfl, hg]
  rfl
theorem heap_sort_ne {Z : World} {g n k : Nat} {d' : Array (EA Z)} {os : Array Obj} (hk : k < Z.heap.size) (hne : k ≠ g) : (sortWorldK (encA Z) 7 Z g 0 n d' os).heap[k]? = Z.heap[k]? := by
  unfold sortWorldK Go.Sort.putRowK Go.Sort.putRow
  rw [Go.Sort.heap_grow_old _ _ (by show k < (Z.heap.modify g _).size; rw [Array.size_modify]; exact hk)]
  show (Z.heap.modify g _)[k]? = _
  rw [Array.getElem?_modify, if_neg (by omega)]
theorem putCells_take {F cur : Array Value} (h : F.size ≤ cur.size) : (Go.Sort.putCells id 0 F cur).toList.take F.size = F.toList := by
  apply List.ext_getElem?
  intro i
  by_cases hi : i < F.size
  · rw [List.getElem?_take_of_lt hi, Array.getElem?_toList, Array.getElem?_toList]
    unfold Go.Sort.putCells
    rw [Array.getElem?_mapIdx, Array.getElem?_eq_getElem (by omega : i < cur.size), Option.map_some, if_pos ⟨by omega, by omega⟩, Nat.sub_zero, Array.getElem?_eq_getElem hi, getElem!_pos F i hi]
    rfl
  · rw [List.getElem?_eq_none (by simp; omega), List.getElem?_eq_none (by simp; omega)]
def toA (Z : World) (xs : List EntD) (h : ∀ x ∈ xs, EntD.Ok Z x) : Array (EA Z) := (xs.attach.map fun x => (⟨x.1, h x.1 x.2⟩ : EA Z)).toArray
theorem toA_val {Z : World} {xs : List EntD} (h : ∀ x ∈ xs, EntD.Ok Z x) : (toA Z xs h).toList.map Subtype.val = xs := by
  unfold toA
  rw [List.map_map]
  exact List.attach_map_subtype_val xs
theorem toA_size {Z : World} {xs : List EntD} (h : ∀ x ∈ xs, EntD.Ok Z x) : (toA Z xs h).size = xs.length := by simp [toA]
theorem holdsA {Z : World} {g : Nat} {xs : List EntD} {cur : Array Value} {ty : TypeId} (h : ∀ x ∈ xs, EntD.Ok Z x) (hg : Z.heap[g]? = some (.cells cur ty (0, 0))) (hc : cur.toList.take (xs.length * 7) = evals xs) : Go.Sort.HoldsK (encA Z) 7 Z g 0 (toA Z xs h) := by
  unfold Go.Sort.HoldsK
  rw [flat_evals, toA_val]
  intro j hj
  rw [List.size_toArray, evals_len] at hj
  refine ⟨?_, ?_⟩
  · have e : cur.toList[j]? = (evals xs)[j]? := by rw [← hc, List.getElem?_take_of_lt hj]
    have hl : j < (evals xs).length := by rw [evals_len]; exact hj
    rw [List.getElem?_eq_getElem hl, Array.getElem?_toList] at e
    rw [Nat.zero_add, getElem!_pos _ j (by rw [List.size_toArray]; exact hl)]
    simp [World.cell?, hg, e]
  · simp [World.frozen?, hg]
theorem sort_holds (hnone : ∀ (c' : Nat) (Z : World), Calls Tryz.prog 80 #[.slice none 0 c', .func (.func 81) #[] #[]] Z fun r Z' => r = .returned (.tuple #[]) ∧ Z' = Z) : SortP := by
  intro B Z a' c' xs hok hlen hB hrow
  rcases hrow.2 with ⟨hv, h0⟩ | ⟨g, cap, cur, hv, hBg, hg, hnc, hcm, hcs, htk⟩
  · have hx : xs = [] := List.eq_nil_of_length_eq_zero h0
    subst hx
    simp only [Value.slice.injEq, List.length_nil] at hv
    obtain ⟨rfl, _, rfl⟩ := hv
    refine Calls.mono (hnone 0 Z) ?_
    rintro r Z' ⟨rfl, rfl⟩
    exact ⟨rfl, [], List.Perm.nil, List.Pairwise.nil, hrow, ⟨rfl, rfl, rfl, Nat.le_refl _, fun _ _ _ => rfl⟩⟩
  · simp only [Value.slice.injEq] at hv
    obtain ⟨rfl, _, rfl⟩ := hv
    have hH := holdsA hok hg htk
    have hsz := toA_size hok
    have lt : g < Z.heap.size := (Array.getElem?_eq_some_iff.1 hg).1
    have key := AnyQ.slices_SortFunc (P := Tryz.prog) (ρ := laidSort) laysSort 7 (fun w => Tryz.isAgg84 w) (fun w => Tryz.sizeOf84 w) (encA Z) (fun x => rfl) (encA_one Z) (cfA Z) (swo_cfA Z) 81 #[] g 0 c' (toA Z xs hok) Z (enters_of Tryz.func81 (by kernel_rfl) rfl) (cmp_lays hH) hH lt (by rw [hsz]; omega)
    rw [hsz] at key
    refine Calls.mono key ?_
    rintro r Z' ⟨rfl, d', n, os, hp, hso, rfl⟩
    obtain ⟨p1, p2, p3⟩ := hp
    have hd' : d'.size = xs.length := by rw [p1, hsz]
    have x1 : d'.extract 0 xs.length = d' := by rw [← hd']; exact Array.extract_size
    have x2 : (toA Z xs hok).extract 0 xs.length = toA Z xs hok := by rw [← hsz]; exact Array.extract_size
    rw [x1, x2] at p3
    refine ⟨rfl, d'.toList.map Subtype.val, ?_, ?_, ?_, ?_⟩
    · have := p3.map Subtype.val
      rwa [toA_val] at this
    · rw [List.pairwise_map, List.pairwise_iff_getElem]
      intro i j hi hj hij
      rw [Array.length_toList] at hi hj
      have := hso i j (Nat.zero_le _) hij (by omega)
      rw [getElem!_pos d' i hi, getElem!_pos d' j hj] at this
      have h1 : ¬ compareS d'[j].1 d'[i].1 < 0 := of_decide_eq_false this
      have h2 := compareS_swap d'[j].1 d'[i].1
      show compareS d'.toList[i].1 d'.toList[j].1 ≤ 0
      rw [Array.getElem_toList, Array.getElem_toList]
      omega
    · refine ⟨by rw [evals_len, List.length_map, Array.length_toList, hd'], .inr ⟨g, c', _, rfl, hBg, heap_sort hg, hnc, hcm, ?_, ?_⟩⟩
      · unfold Go.Sort.putCells
        rw [Array.size_mapIdx, hcs]
      · have hF : (Go.Sort.flatK (encA Z) 7 d').size = xs.length * 7 := by rw [Go.Sort.size_flatK, hd']
        rw [← hF, putCells_take (by rw [hF, hcs]; exact Nat.mul_le_mul_right 7 hnc), flat_evals]
    · refine ⟨rfl, rfl, rfl, ?_, fun k hk hne => heap_sort_ne hk (fun e => hne (by rw [e]; rfl))⟩
      unfold sortWorldK
      rw [Go.Sort.size_grow]
      show Z.heap.size ≤ (Go.Sort.putRowK _ _ _ _ _ _).heap.size + _
      unfold Go.Sort.putRowK
      rw [Go.Sort.size_putRow]
      exact Nat.le_add_right _ _
end Go.Proofs.YthhkpkfpifllkaaGreat
