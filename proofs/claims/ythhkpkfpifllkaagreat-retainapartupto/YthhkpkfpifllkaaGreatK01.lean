import Derived.Test.YthhkpkfpifllkaaGreatK00
import Derived.Laws.EntriesVeiled
import Derived.Handy
import Derived.Lib.SmallJoins
import Derived.Lib.Hide
namespace Go.Proofs.YthhkpkfpifllkaaGreat
open Go.RowKit
set_option linter.unusedVariables false

def aheadS (a b : EntD) (k : Int) : Int := cmpI ((mark a.kind k : Nat) : Int) ((mark b.kind k : Nat) : Int)
theorem markOf_m (k a : Int) (w : World) : Calls Tryz.prog 157 #[.int .i64 k, .int .i64 a] w fun e w' => e = .returned (.int .u8 ((mark k a : Nat) : Int)) ∧ w' = w := markOf_any k a w

set_option maxRecDepth 100000 in
set_option maxHeartbeats 2000000 in
theorem aheadIf_any {a b : EntD} (k : Int) {w : World} :
    Calls Tryz.prog 142 #[.agg a.cells, .agg b.cells, .int .i64 k] w fun r w' => r = .returned (.int .i64 (aheadS a b k)) ∧ Below w.heap.size w w' := by
  obtain ⟨S, hS⟩ : ∃ S, S = aheadS a b k := ⟨_, rfl⟩
  rw [← hS]
  have HS : Hid (cmpI ((mark a.kind k : Nat) : Int) ((mark b.kind k : Nat) : Int) = S) := by unfold Hid; rw [hS]; rfl
  clear hS
  obtain ⟨M1, hM1⟩ : ∃ M, M = mark a.kind k := ⟨_, rfl⟩
  obtain ⟨M2, hM2⟩ : ∃ M, M = mark b.kind k := ⟨_, rfl⟩
  have q1 := fun w => markOf_m a.kind k w
  have q2 := fun w => markOf_m b.kind k w
  have q3 := fun w => cmpByte_any (M1 : Int) (M2 : Int) w
  rw [← hM1] at q1
  rw [← hM2] at q2
  have HS2 : cmpI (M1 : Int) (M2 : Int) = S := by rw [hM1, hM2]; exact HS.out
  rw [HS2] at q3
  have HQ1 : Hid (∀ w, Calls Tryz.prog 157 #[.int .i64 a.kind, .int .i64 k] w fun e w' => e = .returned (.int .u8 ((M1 : Nat) : Int)) ∧ w' = w) := q1
  have HQ2 : Hid (∀ w, Calls Tryz.prog 157 #[.int .i64 b.kind, .int .i64 k] w fun e w' => e = .returned (.int .u8 ((M2 : Nat) : Int)) ∧ w' = w) := q2
  have HQ3 : Hid (∀ w, Calls Tryz.prog 156 #[.int .u8 (M1 : Int), .int .u8 (M2 : Int)] w fun e w' => e = .returned (.int .i64 S) ∧ w' = w) := q3
  clear q1 q2 q3 hM1 hM2 HS HS2
  have A1 := (Below.refl w.heap.size w).alloc (Nat.le_refl _) (.cells a.cells 84)
  have A2 := A1.alloc A1.size (.cells b.cells 84)
  have bxa : Hid (EBox ((w.alloc (.cells a.cells 84)).alloc (.cells b.cells 84)) w.heap.size a) := (EBox.new w a).later ((Below.refl _ _).alloc (Nat.le_refl _) _)
  have bxb : Hid (EBox ((w.alloc (.cells a.cells 84)).alloc (.cells b.cells 84)) (w.heap.size + 1) b) := by
    have := EBox.new (w.alloc (.cells a.cells 84)) b
    rwa [World.size_alloc] at this
  have A2D : Below w.heap.size w ((w.alloc (.cells a.cells 84)).alloc (.cells b.cells 84)).drew := A2.drew
  have ya : ((w.alloc (.cells a.cells 84)).alloc (.cells b.cells 84)).drew.cell? ⟨w.heap.size, 5, none⟩ = some (.int .i64 a.kind) := bxa.out.kind
  have yb : ((w.alloc (.cells a.cells 84)).alloc (.cells b.cells 84)).drew.cell? ⟨w.heap.size + 1, 5, none⟩ = some (.int .i64 b.kind) := bxb.out.kind
  clear A1 bxa bxb
  obtain ⟨vr, fam, vq, ts, seq, ka, vv, row, qual, val⟩ := a
  obtain ⟨vr2, fam2, vq2, ts2, seq2, kb, vv2, row2, qual2, val2⟩ := b
  simp only [EntD.cells] at *
  go_enter Tryz.func142, Tryz.ntmps142
  go_wp2_with fail
  go_region_held3 (fun wx => wx.cell? ⟨w.heap.size, 5, none⟩ = some (.int .i64 ka) ∧ wx.cell? ⟨w.heap.size + 1, 5, none⟩ = some (.int .i64 kb) ∧ Below w.heap.size w wx) (first | exact ⟨ya, yb, A2D⟩) (first | (go_at_call 157; refine (HQ1.out _).mono ?_; rintro e1 wm ⟨rfl, rfl⟩) | (go_at_call 157; refine (HQ2.out _).mono ?_; rintro e1 wm ⟨rfl, rfl⟩) | (go_at_call 156; refine (HQ3.out _).mono ?_; rintro e1 wm ⟨rfl, rfl⟩))
  all_goals (go_wp2; go_ret; exact ⟨rfl, A2D⟩)

set_option maxRecDepth 100000 in
set_option maxHeartbeats 1000000 in
theorem ord1_any {a b : EntD} {w : World} (ha : EntD.Ok w a) (hb : EntD.Ok w b) :
    Calls Tryz.prog 137 #[.agg a.cells, .agg b.cells] w fun r w' => r = .returned (.int .i64 (ordC a.row b.row)) ∧ Below w.heap.size w w' := by
  have A1 := (Below.refl w.heap.size w).alloc (Nat.le_refl _) (.cells a.cells 84)
  have A2 := A1.alloc A1.size (.cells b.cells 84)
  have oa := ha.later A2
  have ob := hb.later A2
  clear A1 ha hb
  obtain ⟨vr, fam, vq, ts, seq, ka, vv, row, qual, val⟩ := a
  obtain ⟨vr2, fam2, vq2, ts2, seq2, kb, vv2, row2, qual2, val2⟩ := b
  obtain ⟨r1, q1, v1⟩ := oa
  obtain ⟨r2, q2, v2⟩ := ob
  simp only [EntD.cells] at *
  go_enter Tryz.func137, Tryz.ntmps137
  go_wp2_with fail
  refine (bytesCompare_any r1 r2).mono ?_
  rintro e1 w1 ⟨rfl, rfl⟩
  go_wp2
  go_ret
  exact ⟨rfl, A2⟩

set_option maxRecDepth 100000 in
set_option maxHeartbeats 1000000 in
theorem ord2_any {a b : EntD} {w : World} (ha : EntD.Ok w a) (hb : EntD.Ok w b) :
    Calls Tryz.prog 139 #[.agg a.cells, .agg b.cells] w fun r w' => r = .returned (.int .i64 (cmpI a.fam b.fam)) ∧ Below w.heap.size w w' := by
  have A1 := (Below.refl w.heap.size w).alloc (Nat.le_refl _) (.cells a.cells 84)
  have A2 := A1.alloc A1.size (.cells b.cells 84)
  have oa := ha.later A2
  have ob := hb.later A2
  clear A1 ha hb
  obtain ⟨vr, fam, vq, ts, seq, ka, vv, row, qual, val⟩ := a
  obtain ⟨vr2, fam2, vq2, ts2, seq2, kb, vv2, row2, qual2, val2⟩ := b
  obtain ⟨r1, q1, v1⟩ := oa
  obtain ⟨r2, q2, v2⟩ := ob
  simp only [EntD.cells] at *
  go_enter Tryz.func139, Tryz.ntmps139
  go_wp2_with fail
  refine (cmpInt_any _ _ _).mono ?_
  rintro e1 w1 ⟨rfl, rfl⟩
  go_wp2
  go_ret
  exact ⟨rfl, A2⟩

set_option maxRecDepth 100000 in
set_option maxHeartbeats 1000000 in
theorem ord3_any {a b : EntD} {w : World} (ha : EntD.Ok w a) (hb : EntD.Ok w b) :
    Calls Tryz.prog 141 #[.agg a.cells, .agg b.cells] w fun r w' => r = .returned (.int .i64 (aheadS a b 5)) ∧ Below w.heap.size w w' := by
  have A1 := (Below.refl w.heap.size w).alloc (Nat.le_refl _) (.cells a.cells 84)
  have A2 := A1.alloc A1.size (.cells b.cells 84)
  have oa := ha.later A2
  have ob := hb.later A2
  clear A1 ha hb
  have c1 := aheadIf_any (a := a) (b := b) 5 (w := (w.alloc (.cells a.cells 84)).alloc (.cells b.cells 84))
  obtain ⟨S, hS⟩ : ∃ S, S = aheadS a b 5 := ⟨_, rfl⟩
  rw [← hS] at c1 ⊢
  have HC : Hid (Calls Tryz.prog 142 #[.agg a.cells, .agg b.cells, .int .i64 5] ((w.alloc (.cells a.cells 84)).alloc (.cells b.cells 84)) fun r w' => r = .returned (.int .i64 S) ∧ Below ((w.alloc (.cells a.cells 84)).alloc (.cells b.cells 84)).heap.size ((w.alloc (.cells a.cells 84)).alloc (.cells b.cells 84)) w') := c1
  clear c1 hS
  obtain ⟨vr, fam, vq, ts, seq, ka, vv, row, qual, val⟩ := a
  obtain ⟨vr2, fam2, vq2, ts2, seq2, kb, vv2, row2, qual2, val2⟩ := b
  obtain ⟨r1, q1, v1⟩ := oa
  obtain ⟨r2, q2, v2⟩ := ob
  simp only [EntD.cells] at *
  go_enter Tryz.func141, Tryz.ntmps141
  go_wp2_with fail
  refine HC.out.mono ?_
  rintro e1 w1 ⟨rfl, hb1⟩
  have B1 := A2.trans (hb1.mono A2.size)
  go_wp2
  go_ret
  exact ⟨rfl, B1⟩

set_option maxRecDepth 100000 in
set_option maxHeartbeats 1000000 in
theorem ord4_any {a b : EntD} {w : World} (ha : EntD.Ok w a) (hb : EntD.Ok w b) :
    Calls Tryz.prog 143 #[.agg a.cells, .agg b.cells] w fun r w' => r = .returned (.int .i64 (ordC a.qual b.qual)) ∧ Below w.heap.size w w' := by
  have A1 := (Below.refl w.heap.size w).alloc (Nat.le_refl _) (.cells a.cells 84)
  have A2 := A1.alloc A1.size (.cells b.cells 84)
  have oa := ha.later A2
  have ob := hb.later A2
  clear A1 ha hb
  obtain ⟨vr, fam, vq, ts, seq, ka, vv, row, qual, val⟩ := a
  obtain ⟨vr2, fam2, vq2, ts2, seq2, kb, vv2, row2, qual2, val2⟩ := b
  obtain ⟨r1, q1, v1⟩ := oa
  obtain ⟨r2, q2, v2⟩ := ob
  simp only [EntD.cells] at *
  go_enter Tryz.func143, Tryz.ntmps143
  go_wp2_with fail
  refine (bytesCompare_any q1 q2).mono ?_
  rintro e1 w1 ⟨rfl, rfl⟩
  go_wp2
  go_ret
  exact ⟨rfl, A2⟩

set_option maxRecDepth 100000 in
set_option maxHeartbeats 1000000 in
theorem ord5_any {a b : EntD} {w : World} (ha : EntD.Ok w a) (hb : EntD.Ok w b) :
    Calls Tryz.prog 144 #[.agg a.cells, .agg b.cells] w fun r w' => r = .returned (.int .i64 (aheadS a b 4)) ∧ Below w.heap.size w w' := by
  have A1 := (Below.refl w.heap.size w).alloc (Nat.le_refl _) (.cells a.cells 84)
  have A2 := A1.alloc A1.size (.cells b.cells 84)
  have oa := ha.later A2
  have ob := hb.later A2
  clear A1 ha hb
  have c1 := aheadIf_any (a := a) (b := b) 4 (w := (w.alloc (.cells a.cells 84)).alloc (.cells b.cells 84))
  obtain ⟨S, hS⟩ : ∃ S, S = aheadS a b 4 := ⟨_, rfl⟩
  rw [← hS] at c1 ⊢
  have HC : Hid (Calls Tryz.prog 142 #[.agg a.cells, .agg b.cells, .int .i64 4] ((w.alloc (.cells a.cells 84)).alloc (.cells b.cells 84)) fun r w' => r = .returned (.int .i64 S) ∧ Below ((w.alloc (.cells a.cells 84)).alloc (.cells b.cells 84)).heap.size ((w.alloc (.cells a.cells 84)).alloc (.cells b.cells 84)) w') := c1
  clear c1 hS
  obtain ⟨vr, fam, vq, ts, seq, ka, vv, row, qual, val⟩ := a
  obtain ⟨vr2, fam2, vq2, ts2, seq2, kb, vv2, row2, qual2, val2⟩ := b
  obtain ⟨r1, q1, v1⟩ := oa
  obtain ⟨r2, q2, v2⟩ := ob
  simp only [EntD.cells] at *
  go_enter Tryz.func144, Tryz.ntmps144
  go_wp2_with fail
  refine HC.out.mono ?_
  rintro e1 w1 ⟨rfl, hb1⟩
  have B1 := A2.trans (hb1.mono A2.size)
  go_wp2
  go_ret
  exact ⟨rfl, B1⟩

set_option maxRecDepth 100000 in
set_option maxHeartbeats 1000000 in
theorem ord6_any {a b : EntD} {w : World} (ha : EntD.Ok w a) (hb : EntD.Ok w b) :
    Calls Tryz.prog 145 #[.agg a.cells, .agg b.cells] w fun r w' => r = .returned (.int .i64 (cmpI b.ts a.ts)) ∧ Below w.heap.size w w' := by
  have A1 := (Below.refl w.heap.size w).alloc (Nat.le_refl _) (.cells a.cells 84)
  have A2 := A1.alloc A1.size (.cells b.cells 84)
  have oa := ha.later A2
  have ob := hb.later A2
  clear A1 ha hb
  obtain ⟨vr, fam, vq, ts, seq, ka, vv, row, qual, val⟩ := a
  obtain ⟨vr2, fam2, vq2, ts2, seq2, kb, vv2, row2, qual2, val2⟩ := b
  obtain ⟨r1, q1, v1⟩ := oa
  obtain ⟨r2, q2, v2⟩ := ob
  simp only [EntD.cells] at *
  go_enter Tryz.func145, Tryz.ntmps145
  go_wp2_with fail
  refine (cmpInt_any _ _ _).mono ?_
  rintro e1 w1 ⟨rfl, rfl⟩
  go_wp2
  go_ret
  exact ⟨rfl, A2⟩

set_option maxRecDepth 100000 in
set_option maxHeartbeats 1000000 in
theorem ord7_any {a b : EntD} {w : World} (ha : EntD.Ok w a) (hb : EntD.Ok w b) :
    Calls Tryz.prog 146 #[.agg a.cells, .agg b.cells] w fun r w' => r = .returned (.int .i64 (cmpI b.seq a.seq)) ∧ Below w.heap.size w w' := by
  have A1 := (Below.refl w.heap.size w).alloc (Nat.le_refl _) (.cells a.cells 84)
  have A2 := A1.alloc A1.size (.cells b.cells 84)
  have oa := ha.later A2
  have ob := hb.later A2
  clear A1 ha hb
  obtain ⟨vr, fam, vq, ts, seq, ka, vv, row, qual, val⟩ := a
  obtain ⟨vr2, fam2, vq2, ts2, seq2, kb, vv2, row2, qual2, val2⟩ := b
  obtain ⟨r1, q1, v1⟩ := oa
  obtain ⟨r2, q2, v2⟩ := ob
  simp only [EntD.cells] at *
  go_enter Tryz.func146, Tryz.ntmps146
  go_wp2_with fail
  refine (cmpInt_any _ _ _).mono ?_
  rintro e1 w1 ⟨rfl, rfl⟩
  go_wp2
  go_ret
  exact ⟨rfl, A2⟩

set_option maxRecDepth 100000 in
set_option maxHeartbeats 1000000 in
theorem ord8_any {a b : EntD} {w : World} (ha : EntD.Ok w a) (hb : EntD.Ok w b) :
    Calls Tryz.prog 147 #[.agg a.cells, .agg b.cells] w fun r w' => r = .returned (.int .i64 (cmpI a.kind b.kind)) ∧ Below w.heap.size w w' := by
  have A1 := (Below.refl w.heap.size w).alloc (Nat.le_refl _) (.cells a.cells 84)
  have A2 := A1.alloc A1.size (.cells b.cells 84)
  have oa := ha.later A2
  have ob := hb.later A2
  clear A1 ha hb
  obtain ⟨vr, fam, vq, ts, seq, ka, vv, row, qual, val⟩ := a
  obtain ⟨vr2, fam2, vq2, ts2, seq2, kb, vv2, row2, qual2, val2⟩ := b
  obtain ⟨r1, q1, v1⟩ := oa
  obtain ⟨r2, q2, v2⟩ := ob
  simp only [EntD.cells] at *
  go_enter Tryz.func147, Tryz.ntmps147
  go_wp2_with fail
  refine (cmpInt_any _ _ _).mono ?_
  rintro e1 w1 ⟨rfl, rfl⟩
  go_wp2
  go_ret
  exact ⟨rfl, A2⟩

end Go.Proofs.YthhkpkfpifllkaaGreat

namespace Go.Proofs.YthhkpkfpifllkaaGreat
open Go.RowKit
set_option linter.unusedVariables false

def cmpsS (a b : EntD) : List Int := [ordC a.row b.row, cmpI a.fam b.fam, aheadS a b 5, ordC a.qual b.qual, aheadS a b 4, cmpI b.ts a.ts, cmpI b.seq a.seq, cmpI a.kind b.kind]
def firstNZ : List Int → Int
  | [] => 0
  | x :: r => if x = 0 then firstNZ r else x
def compareS (a b : EntD) : Int := firstNZ (cmpsS a b)
theorem firstNZ_at : ∀ (l : List Int) (t : Nat), (∀ j, j < t → l.getD j 0 = 0) → l.getD t 0 ≠ 0 → firstNZ l = l.getD t 0
  | [], t, _, h => by simp at h
  | x :: r, 0, _, h => by simp at h ⊢; simp [firstNZ, h]
  | x :: r, t + 1, h0, h => by
    have hx : x = 0 := by simpa using h0 0 (by omega)
    have := firstNZ_at r t (fun j hj => by simpa using h0 (j + 1) (by omega)) (by simpa using h)
    simp [firstNZ, hx]
    simpa using this
theorem firstNZ_none : ∀ (l : List Int), (∀ j, j < l.length → l.getD j 0 = 0) → firstNZ l = 0
  | [], _ => rfl
  | x :: r, h => by
    have hx : x = 0 := by simpa using h 0 (by simp)
    have := firstNZ_none r (fun j hj => by simpa using h (j + 1) (by simp; omega))
    simp [firstNZ, hx, this]

set_option maxRecDepth 100000 in
set_option maxHeartbeats 1000000 in
theorem order_fns (w : World) : Calls Tryz.prog 111 #[] w fun r w' => r = .returned (.agg #[.func (.func 137) #[] #[], .func (.func 139) #[] #[], .func (.func 141) #[] #[], .func (.func 143) #[] #[], .func (.func 144) #[] #[], .func (.func 145) #[] #[], .func (.func 146) #[] #[], .func (.func 147) #[] #[]]) ∧ Below w.heap.size w w' := by
  have A1 := (Below.refl w.heap.size w).alloc (Nat.le_refl _) (.cells #[.func (.func 137) #[] #[], .func (.func 139) #[] #[], .func (.func 141) #[] #[], .func (.func 143) #[] #[], .func (.func 144) #[] #[], .func (.func 145) #[] #[], .func (.func 146) #[] #[], .func (.func 147) #[] #[]] 167)
  go_enter Tryz.func111, Tryz.ntmps111
  go_wp2
  go_returns
  exact ⟨rfl, A1⟩

set_option maxRecDepth 100000 in
set_option maxHeartbeats 8000000 in
theorem compare_any {a b : EntD} {w : World} (ha : EntD.Ok w a) (hb : EntD.Ok w b) :
    Calls Tryz.prog 81 #[.agg a.cells, .agg b.cells] w fun r w' => r = .returned (.int .i64 (compareS a b)) ∧ Below w.heap.size w w' := by
  have A1 := (Below.refl w.heap.size w).alloc (Nat.le_refl _) (.cells a.cells 84)
  have A2 := A1.alloc A1.size (.cells b.cells 84)
  have bxa0 := (EBox.new w a).later ((Below.refl (w.alloc (.cells a.cells 84)).heap.size (w.alloc (.cells a.cells 84))).alloc (Nat.le_refl _) (.cells b.cells 84))
  have bxb0 := EBox.new (w.alloc (.cells a.cells 84)) b
  rw [World.size_alloc] at bxb0
  have BXA0 : Hid (EBox _ w.heap.size a) := bxa0
  have BXB0 : Hid (EBox _ (w.heap.size + 1) b) := bxb0
  have HA : Hid (EntD.Ok w a) := ha
  have HB : Hid (EntD.Ok w b) := hb
  obtain ⟨va, hva⟩ : ∃ v, v = a.cells := ⟨_, rfl⟩
  clear A1 bxa0 bxb0 ha hb hva va
  go_enter Tryz.func81, Tryz.ntmps81
  go_wp2_with fail
  refine (order_fns _).mono ?_
  rintro e1 w1 ⟨rfl, hb1⟩
  have B1 := A2.trans (hb1.mono A2.size)
  have BXA1 := BXA0.out.later hb1
  have BXB1 := BXB0.out.later hb1
  clear A2 BXA0 BXB0 hb1
  go_wp2
  go_loopw [6, 7, 9] (fun f n i wr => ∃ t : Nat, t ≤ 8 ∧ i = .int .i64 (t : Int) ∧ (∀ j, j < t → (cmpsS a b).getD j 0 = 0) ∧ EBox wr w.heap.size a ∧ EBox wr (w.heap.size + 1) b ∧ Below w.heap.size w wr) (fun _ _ i _ => 8 - (intOf i).toNat)
  case atStart => exact ⟨0, by omega, rfl, fun j hj => by omega, BXA1, BXB1, B1⟩
  case round =>
    obtain ⟨t, ht8, rfl, hz, bxa, bxb, hb1⟩ := hrel
    have HZ : Hid (∀ j, j < t → (cmpsS a b).getD j 0 = 0) := hz
    have BXA : Hid (EBox wr w.heap.size a) := bxa
    have BXB : Hid (EBox wr (w.heap.size + 1) b) := bxb
    clear hz
    by_cases hlt : t < 8
    · obtain ⟨S, hS⟩ : ∃ S, S = (cmpsS a b).getD t 0 := ⟨_, rfl⟩
      have HS : Hid (S = (cmpsS a b).getD t 0) := hS
      clear hS
      have ca0 := bxa.vr
      have ca1 := bxa.fam
      have ca2 := bxa.vq
      have ca3 := bxa.ts
      have ca4 := bxa.seq
      have ca5 := bxa.kind
      have ca6 := bxa.vv
      have cb0 := bxb.vr
      have cb1 := bxb.fam
      have cb2 := bxb.vq
      have cb3 := bxb.ts
      have cb4 := bxb.seq
      have cb5 := bxb.kind
      have cb6 := bxb.vv
      rcases (show t = 0 ∨ t = 1 ∨ t = 2 ∨ t = 3 ∨ t = 4 ∨ t = 5 ∨ t = 6 ∨ t = 7 by omega) with rfl | rfl | rfl | rfl | rfl | rfl | rfl | rfl
      · have HC : Hid (∀ w2, Below w.heap.size w w2 → Calls Tryz.prog 137 #[.agg a.cells, .agg b.cells] w2 fun r w' => r = .returned (.int .i64 S) ∧ Below w2.heap.size w2 w') := fun w2 h2 => by rw [HS.out]; exact ord1_any (HA.out.later h2) (HB.out.later h2)
        have hidx : ∀ w, (Instr.index 167 (.agg #[.func (.func 137) #[] #[], .func (.func 139) #[] #[], .func (.func 141) #[] #[], .func (.func 143) #[] #[], .func (.func 144) #[] #[], .func (.func 145) #[] #[], .func (.func 146) #[] #[], .func (.func 147) #[] #[]]) (.int .i64 0)).run Tryz.prog w = .ok (.func (.func 137) #[] #[]) w := fun _ => by kernel_rfl
        by_cases hz : S = 0
        · have HZ2 : Hid (∀ j, j < 1 → (cmpsS a b).getD j 0 = 0) := fun j hj => by
            by_cases h : j < 0
            · exact HZ.out j h
            · obtain rfl : j = 0 := by omega
              rw [← HS.out]; exact hz
          subst hz
          have HC2 := HC.out wr hb1
          have HC3 : Hid (Calls Tryz.prog 137 #[.agg a.cells, .agg b.cells] wr fun r w' => r = .returned (.int .i64 0) ∧ Below wr.heap.size wr w') := HC2
          clear HC HC2 HS
          simp only [EntD.cells] at bxa bxb HC3
          go_wp2_with fail
          refine HC3.out.mono ?_
          rintro e2 w2 ⟨rfl, hb2⟩
          have B2 := hb1.trans (hb2.mono hb1.size)
          have bxa2 := BXA.out.later hb2
          have bxb2 := BXB.out.later hb2
          go_wp2
          go_roundw
          case rel => exact ⟨1, by omega, by go_num, HZ2.out, bxa2, bxb2, B2⟩
          case measure => simp [intOf]
        · have HR : Hid (compareS a b = S) := by unfold Hid compareS; rw [firstNZ_at _ 0 HZ.out (by rw [← HS.out]; exact hz), HS.out]
          have hz1 : (S != 0) = true := by simp; exact hz
          have HC2 := HC.out wr hb1
          have HC3 : Hid (Calls Tryz.prog 137 #[.agg a.cells, .agg b.cells] wr fun r w' => r = .returned (.int .i64 S) ∧ Below wr.heap.size wr w') := HC2
          clear HC HC2 HS
          simp only [EntD.cells] at bxa bxb HC3
          go_wp2_with fail
          refine HC3.out.mono ?_
          rintro e2 w2 ⟨rfl, hb2⟩
          have B2 := hb1.trans (hb2.mono hb1.size)
          go_wp2
          go_ret
          exact ⟨by rw [HR.out]; rfl, B2⟩
      · have HC : Hid (∀ w2, Below w.heap.size w w2 → Calls Tryz.prog 139 #[.agg a.cells, .agg b.cells] w2 fun r w' => r = .returned (.int .i64 S) ∧ Below w2.heap.size w2 w') := fun w2 h2 => by rw [HS.out]; exact ord2_any (HA.out.later h2) (HB.out.later h2)
        have hidx : ∀ w, (Instr.index 167 (.agg #[.func (.func 137) #[] #[], .func (.func 139) #[] #[], .func (.func 141) #[] #[], .func (.func 143) #[] #[], .func (.func 144) #[] #[], .func (.func 145) #[] #[], .func (.func 146) #[] #[], .func (.func 147) #[] #[]]) (.int .i64 1)).run Tryz.prog w = .ok (.func (.func 139) #[] #[]) w := fun _ => by kernel_rfl
        by_cases hz : S = 0
        · have HZ2 : Hid (∀ j, j < 2 → (cmpsS a b).getD j 0 = 0) := fun j hj => by
            by_cases h : j < 1
            · exact HZ.out j h
            · obtain rfl : j = 1 := by omega
              rw [← HS.out]; exact hz
          subst hz
          have HC2 := HC.out wr hb1
          have HC3 : Hid (Calls Tryz.prog 139 #[.agg a.cells, .agg b.cells] wr fun r w' => r = .returned (.int .i64 0) ∧ Below wr.heap.size wr w') := HC2
          clear HC HC2 HS
          simp only [EntD.cells] at bxa bxb HC3
          go_wp2_with fail
          refine HC3.out.mono ?_
          rintro e2 w2 ⟨rfl, hb2⟩
          have B2 := hb1.trans (hb2.mono hb1.size)
          have bxa2 := BXA.out.later hb2
          have bxb2 := BXB.out.later hb2
          go_wp2
          go_roundw
          case rel => exact ⟨2, by omega, by go_num, HZ2.out, bxa2, bxb2, B2⟩
          case measure => simp [intOf]
        · have HR : Hid (compareS a b = S) := by unfold Hid compareS; rw [firstNZ_at _ 1 HZ.out (by rw [← HS.out]; exact hz), HS.out]
          have hz1 : (S != 0) = true := by simp; exact hz
          have HC2 := HC.out wr hb1
          have HC3 : Hid (Calls Tryz.prog 139 #[.agg a.cells, .agg b.cells] wr fun r w' => r = .returned (.int .i64 S) ∧ Below wr.heap.size wr w') := HC2
          clear HC HC2 HS
          simp only [EntD.cells] at bxa bxb HC3
          go_wp2_with fail
          refine HC3.out.mono ?_
          rintro e2 w2 ⟨rfl, hb2⟩
          have B2 := hb1.trans (hb2.mono hb1.size)
          go_wp2
          go_ret
          exact ⟨by rw [HR.out]; rfl, B2⟩
      · have HC : Hid (∀ w2, Below w.heap.size w w2 → Calls Tryz.prog 141 #[.agg a.cells, .agg b.cells] w2 fun r w' => r = .returned (.int .i64 S) ∧ Below w2.heap.size w2 w') := fun w2 h2 => by rw [HS.out]; exact ord3_any (HA.out.later h2) (HB.out.later h2)
        have hidx : ∀ w, (Instr.index 167 (.agg #[.func (.func 137) #[] #[], .func (.func 139) #[] #[], .func (.func 141) #[] #[], .func (.func 143) #[] #[], .func (.func 144) #[] #[], .func (.func 145) #[] #[], .func (.func 146) #[] #[], .func (.func 147) #[] #[]]) (.int .i64 2)).run Tryz.prog w = .ok (.func (.func 141) #[] #[]) w := fun _ => by kernel_rfl
        by_cases hz : S = 0
        · have HZ2 : Hid (∀ j, j < 3 → (cmpsS a b).getD j 0 = 0) := fun j hj => by
            by_cases h : j < 2
            · exact HZ.out j h
            · obtain rfl : j = 2 := by omega
              rw [← HS.out]; exact hz
          subst hz
          have HC2 := HC.out wr hb1
          have HC3 : Hid (Calls Tryz.prog 141 #[.agg a.cells, .agg b.cells] wr fun r w' => r = .returned (.int .i64 0) ∧ Below wr.heap.size wr w') := HC2
          clear HC HC2 HS
          simp only [EntD.cells] at bxa bxb HC3
          go_wp2_with fail
          refine HC3.out.mono ?_
          rintro e2 w2 ⟨rfl, hb2⟩
          have B2 := hb1.trans (hb2.mono hb1.size)
          have bxa2 := BXA.out.later hb2
          have bxb2 := BXB.out.later hb2
          go_wp2
          go_roundw
          case rel => exact ⟨3, by omega, by go_num, HZ2.out, bxa2, bxb2, B2⟩
          case measure => simp [intOf]
        · have HR : Hid (compareS a b = S) := by unfold Hid compareS; rw [firstNZ_at _ 2 HZ.out (by rw [← HS.out]; exact hz), HS.out]
          have hz1 : (S != 0) = true := by simp; exact hz
          have HC2 := HC.out wr hb1
          have HC3 : Hid (Calls Tryz.prog 141 #[.agg a.cells, .agg b.cells] wr fun r w' => r = .returned (.int .i64 S) ∧ Below wr.heap.size wr w') := HC2
          clear HC HC2 HS
          simp only [EntD.cells] at bxa bxb HC3
          go_wp2_with fail
          refine HC3.out.mono ?_
          rintro e2 w2 ⟨rfl, hb2⟩
          have B2 := hb1.trans (hb2.mono hb1.size)
          go_wp2
          go_ret
          exact ⟨by rw [HR.out]; rfl, B2⟩
      · have HC : Hid (∀ w2, Below w.heap.size w w2 → Calls Tryz.prog 143 #[.agg a.cells, .agg b.cells] w2 fun r w' => r = .returned (.int .i64 S) ∧ Below w2.heap.size w2 w') := fun w2 h2 => by rw [HS.out]; exact ord4_any (HA.out.later h2) (HB.out.later h2)
        have hidx : ∀ w, (Instr.index 167 (.agg #[.func (.func 137) #[] #[], .func (.func 139) #[] #[], .func (.func 141) #[] #[], .func (.func 143) #[] #[], .func (.func 144) #[] #[], .func (.func 145) #[] #[], .func (.func 146) #[] #[], .func (.func 147) #[] #[]]) (.int .i64 3)).run Tryz.prog w = .ok (.func (.func 143) #[] #[]) w := fun _ => by kernel_rfl
        by_cases hz : S = 0
        · have HZ2 : Hid (∀ j, j < 4 → (cmpsS a b).getD j 0 = 0) := fun j hj => by
            by_cases h : j < 3
            · exact HZ.out j h
            · obtain rfl : j = 3 := by omega
              rw [← HS.out]; exact hz
          subst hz
          have HC2 := HC.out wr hb1
          have HC3 : Hid (Calls Tryz.prog 143 #[.agg a.cells, .agg b.cells] wr fun r w' => r = .returned (.int .i64 0) ∧ Below wr.heap.size wr w') := HC2
          clear HC HC2 HS
          simp only [EntD.cells] at bxa bxb HC3
          go_wp2_with fail
          refine HC3.out.mono ?_
          rintro e2 w2 ⟨rfl, hb2⟩
          have B2 := hb1.trans (hb2.mono hb1.size)
          have bxa2 := BXA.out.later hb2
          have bxb2 := BXB.out.later hb2
          go_wp2
          go_roundw
          case rel => exact ⟨4, by omega, by go_num, HZ2.out, bxa2, bxb2, B2⟩
          case measure => simp [intOf]
        · have HR : Hid (compareS a b = S) := by unfold Hid compareS; rw [firstNZ_at _ 3 HZ.out (by rw [← HS.out]; exact hz), HS.out]
          have hz1 : (S != 0) = true := by simp; exact hz
          have HC2 := HC.out wr hb1
          have HC3 : Hid (Calls Tryz.prog 143 #[.agg a.cells, .agg b.cells] wr fun r w' => r = .returned (.int .i64 S) ∧ Below wr.heap.size wr w') := HC2
          clear HC HC2 HS
          simp only [EntD.cells] at bxa bxb HC3
          go_wp2_with fail
          refine HC3.out.mono ?_
          rintro e2 w2 ⟨rfl, hb2⟩
          have B2 := hb1.trans (hb2.mono hb1.size)
          go_wp2
          go_ret
          exact ⟨by rw [HR.out]; rfl, B2⟩
      · have HC : Hid (∀ w2, Below w.heap.size w w2 → Calls Tryz.prog 144 #[.agg a.cells, .agg b.cells] w2 fun r w' => r = .returned (.int .i64 S) ∧ Below w2.heap.size w2 w') := fun w2 h2 => by rw [HS.out]; exact ord5_any (HA.out.later h2) (HB.out.later h2)
        have hidx : ∀ w, (Instr.index 167 (.agg #[.func (.func 137) #[] #[], .func (.func 139) #[] #[], .func (.func 141) #[] #[], .func (.func 143) #[] #[], .func (.func 144) #[] #[], .func (.func 145) #[] #[], .func (.func 146) #[] #[], .func (.func 147) #[] #[]]) (.int .i64 4)).run Tryz.prog w = .ok (.func (.func 144) #[] #[]) w := fun _ => by kernel_rfl
        by_cases hz : S = 0
        · have HZ2 : Hid (∀ j, j < 5 → (cmpsS a b).getD j 0 = 0) := fun j hj => by
            by_cases h : j < 4
            · exact HZ.out j h
            · obtain rfl : j = 4 := by omega
              rw [← HS.out]; exact hz
          subst hz
          have HC2 := HC.out wr hb1
          have HC3 : Hid (Calls Tryz.prog 144 #[.agg a.cells, .agg b.cells] wr fun r w' => r = .returned (.int .i64 0) ∧ Below wr.heap.size wr w') := HC2
          clear HC HC2 HS
          simp only [EntD.cells] at bxa bxb HC3
          go_wp2_with fail
          refine HC3.out.mono ?_
          rintro e2 w2 ⟨rfl, hb2⟩
          have B2 := hb1.trans (hb2.mono hb1.size)
          have bxa2 := BXA.out.later hb2
          have bxb2 := BXB.out.later hb2
          go_wp2
          go_roundw
          case rel => exact ⟨5, by omega, by go_num, HZ2.out, bxa2, bxb2, B2⟩
          case measure => simp [intOf]
        · have HR : Hid (compareS a b = S) := by unfold Hid compareS; rw [firstNZ_at _ 4 HZ.out (by rw [← HS.out]; exact hz), HS.out]
          have hz1 : (S != 0) = true := by simp; exact hz
          have HC2 := HC.out wr hb1
          have HC3 : Hid (Calls Tryz.prog 144 #[.agg a.cells, .agg b.cells] wr fun r w' => r = .returned (.int .i64 S) ∧ Below wr.heap.size wr w') := HC2
          clear HC HC2 HS
          simp only [EntD.cells] at bxa bxb HC3
          go_wp2_with fail
          refine HC3.out.mono ?_
          rintro e2 w2 ⟨rfl, hb2⟩
          have B2 := hb1.trans (hb2.mono hb1.size)
          go_wp2
          go_ret
          exact ⟨by rw [HR.out]; rfl, B2⟩
      · have HC : Hid (∀ w2, Below w.heap.size w w2 → Calls Tryz.prog 145 #[.agg a.cells, .agg b.cells] w2 fun r w' => r = .returned (.int .i64 S) ∧ Below w2.heap.size w2 w') := fun w2 h2 => by rw [HS.out]; exact ord6_any (HA.out.later h2) (HB.out.later h2)
        have hidx : ∀ w, (Instr.index 167 (.agg #[.func (.func 137) #[] #[], .func (.func 139) #[] #[], .func (.func 141) #[] #[], .func (.func 143) #[] #[], .func (.func 144) #[] #[], .func (.func 145) #[] #[], .func (.func 146) #[] #[], .func (.func 147) #[] #[]]) (.int .i64 5)).run Tryz.prog w = .ok (.func (.func 145) #[] #[]) w := fun _ => by kernel_rfl
        by_cases hz : S = 0
        · have HZ2 : Hid (∀ j, j < 6 → (cmpsS a b).getD j 0 = 0) := fun j hj => by
            by_cases h : j < 5
            · exact HZ.out j h
            · obtain rfl : j = 5 := by omega
              rw [← HS.out]; exact hz
          subst hz
          have HC2 := HC.out wr hb1
          have HC3 : Hid (Calls Tryz.prog 145 #[.agg a.cells, .agg b.cells] wr fun r w' => r = .returned (.int .i64 0) ∧ Below wr.heap.size wr w') := HC2
          clear HC HC2 HS
          simp only [EntD.cells] at bxa bxb HC3
          go_wp2_with fail
          refine HC3.out.mono ?_
          rintro e2 w2 ⟨rfl, hb2⟩
          have B2 := hb1.trans (hb2.mono hb1.size)
          have bxa2 := BXA.out.later hb2
          have bxb2 := BXB.out.later hb2
          go_wp2
          go_roundw
          case rel => exact ⟨6, by omega, by go_num, HZ2.out, bxa2, bxb2, B2⟩
          case measure => simp [intOf]
        · have HR : Hid (compareS a b = S) := by unfold Hid compareS; rw [firstNZ_at _ 5 HZ.out (by rw [← HS.out]; exact hz), HS.out]
          have hz1 : (S != 0) = true := by simp; exact hz
          have HC2 := HC.out wr hb1
          have HC3 : Hid (Calls Tryz.prog 145 #[.agg a.cells, .agg b.cells] wr fun r w' => r = .returned (.int .i64 S) ∧ Below wr.heap.size wr w') := HC2
          clear HC HC2 HS
          simp only [EntD.cells] at bxa bxb HC3
          go_wp2_with fail
          refine HC3.out.mono ?_
          rintro e2 w2 ⟨rfl, hb2⟩
          have B2 := hb1.trans (hb2.mono hb1.size)
          go_wp2
          go_ret
          exact ⟨by rw [HR.out]; rfl, B2⟩
      · have HC : Hid (∀ w2, Below w.heap.size w w2 → Calls Tryz.prog 146 #[.agg a.cells, .agg b.cells] w2 fun r w' => r = .returned (.int .i64 S) ∧ Below w2.heap.size w2 w') := fun w2 h2 => by rw [HS.out]; exact ord7_any (HA.out.later h2) (HB.out.later h2)
        have hidx : ∀ w, (Instr.index 167 (.agg #[.func (.func 137) #[] #[], .func (.func 139) #[] #[], .func (.func 141) #[] #[], .func (.func 143) #[] #[], .func (.func 144) #[] #[], .func (.func 145) #[] #[], .func (.func 146) #[] #[], .func (.func 147) #[] #[]]) (.int .i64 6)).run Tryz.prog w = .ok (.func (.func 146) #[] #[]) w := fun _ => by kernel_rfl
        by_cases hz : S = 0
        · have HZ2 : Hid (∀ j, j < 7 → (cmpsS a b).getD j 0 = 0) := fun j hj => by
            by_cases h : j < 6
            · exact HZ.out j h
            · obtain rfl : j = 6 := by omega
              rw [← HS.out]; exact hz
          subst hz
          have HC2 := HC.out wr hb1
          have HC3 : Hid (Calls Tryz.prog 146 #[.agg a.cells, .agg b.cells] wr fun r w' => r = .returned (.int .i64 0) ∧ Below wr.heap.size wr w') := HC2
          clear HC HC2 HS
          simp only [EntD.cells] at bxa bxb HC3
          go_wp2_with fail
          refine HC3.out.mono ?_
          rintro e2 w2 ⟨rfl, hb2⟩
          have B2 := hb1.trans (hb2.mono hb1.size)
          have bxa2 := BXA.out.later hb2
          have bxb2 := BXB.out.later hb2
          go_wp2
          go_roundw
          case rel => exact ⟨7, by omega, by go_num, HZ2.out, bxa2, bxb2, B2⟩
          case measure => simp [intOf]
        · have HR : Hid (compareS a b = S) := by unfold Hid compareS; rw [firstNZ_at _ 6 HZ.out (by rw [← HS.out]; exact hz), HS.out]
          have hz1 : (S != 0) = true := by simp; exact hz
          have HC2 := HC.out wr hb1
          have HC3 : Hid (Calls Tryz.prog 146 #[.agg a.cells, .agg b.cells] wr fun r w' => r = .returned (.int .i64 S) ∧ Below wr.heap.size wr w') := HC2
          clear HC HC2 HS
          simp only [EntD.cells] at bxa bxb HC3
          go_wp2_with fail
          refine HC3.out.mono ?_
          rintro e2 w2 ⟨rfl, hb2⟩
          have B2 := hb1.trans (hb2.mono hb1.size)
          go_wp2
          go_ret
          exact ⟨by rw [HR.out]; rfl, B2⟩
      · have HC : Hid (∀ w2, Below w.heap.size w w2 → Calls Tryz.prog 147 #[.agg a.cells, .agg b.cells] w2 fun r w' => r = .returned (.int .i64 S) ∧ Below w2.heap.size w2 w') := fun w2 h2 => by rw [HS.out]; exact ord8_any (HA.out.later h2) (HB.out.later h2)
        have hidx : ∀ w, (Instr.index 167 (.agg #[.func (.func 137) #[] #[], .func (.func 139) #[] #[], .func (.func 141) #[] #[], .func (.func 143) #[] #[], .func (.func 144) #[] #[], .func (.func 145) #[] #[], .func (.func 146) #[] #[], .func (.func 147) #[] #[]]) (.int .i64 7)).run Tryz.prog w = .ok (.func (.func 147) #[] #[]) w := fun _ => by kernel_rfl
        by_cases hz : S = 0
        · have HZ2 : Hid (∀ j, j < 8 → (cmpsS a b).getD j 0 = 0) := fun j hj => by
            by_cases h : j < 7
            · exact HZ.out j h
            · obtain rfl : j = 7 := by omega
              rw [← HS.out]; exact hz
          subst hz
          have HC2 := HC.out wr hb1
          have HC3 : Hid (Calls Tryz.prog 147 #[.agg a.cells, .agg b.cells] wr fun r w' => r = .returned (.int .i64 0) ∧ Below wr.heap.size wr w') := HC2
          clear HC HC2 HS
          simp only [EntD.cells] at bxa bxb HC3
          go_wp2_with fail
          refine HC3.out.mono ?_
          rintro e2 w2 ⟨rfl, hb2⟩
          have B2 := hb1.trans (hb2.mono hb1.size)
          have bxa2 := BXA.out.later hb2
          have bxb2 := BXB.out.later hb2
          go_wp2
          go_roundw
          case rel => exact ⟨8, by omega, by go_num, HZ2.out, bxa2, bxb2, B2⟩
          case measure => simp [intOf]
        · have HR : Hid (compareS a b = S) := by unfold Hid compareS; rw [firstNZ_at _ 7 HZ.out (by rw [← HS.out]; exact hz), HS.out]
          have hz1 : (S != 0) = true := by simp; exact hz
          have HC2 := HC.out wr hb1
          have HC3 : Hid (Calls Tryz.prog 147 #[.agg a.cells, .agg b.cells] wr fun r w' => r = .returned (.int .i64 S) ∧ Below wr.heap.size wr w') := HC2
          clear HC HC2 HS
          simp only [EntD.cells] at bxa bxb HC3
          go_wp2_with fail
          refine HC3.out.mono ?_
          rintro e2 w2 ⟨rfl, hb2⟩
          have B2 := hb1.trans (hb2.mono hb1.size)
          go_wp2
          go_ret
          exact ⟨by rw [HR.out]; rfl, B2⟩
    · have hge : (8 : Int) ≤ (t : Int) := by omega
      have HR : Hid (compareS a b = 0) := by unfold Hid compareS; exact firstNZ_none _ (fun j hj => HZ.out j (by have : (cmpsS a b).length = 8 := rfl; omega))
      clear hlt
      go_wp2
      go_ret
      exact ⟨by rw [HR.out]; rfl, hb1⟩

end Go.Proofs.YthhkpkfpifllkaaGreat

namespace Go.Proofs.YthhkpkfpifllkaaGreat
open Go.RowKit
set_option linter.unusedVariables false

structure Apart (g : Nat) (w w' : World) : Prop where
  os : w'.os = w.os
  tape : w'.tape = w.tape
  output : w'.output = w.output
  size : w.heap.size ≤ w'.heap.size
  block : ∀ k, k < w.heap.size → k ≠ g → w'.heap[k]? = w.heap[k]?
def rcells (v : Value) (k : Int) (bad : Bool) : Array Value := #[v, .int .i64 k, .bool bad]
def oneR (bs : List Nat) (k : Nat) : Nat × Nat × Bool := if k = bs.length then (0, k, true) else (bs.getD k 0, k + 1, false)
end Go.Proofs.YthhkpkfpifllkaaGreat

namespace Go.Proofs.YthhkpkfpifllkaaGreat
open Go.RowKit
set_option linter.unusedVariables false
def filled (w : World) (g : Nat) (e : EntD) : World :=
  ((((((w.setCell ⟨g, 0, none⟩ e.vr).setCell ⟨g, 1, none⟩ (.int .i64 e.fam)).setCell ⟨g, 2, none⟩ e.vq).setCell ⟨g, 3, none⟩ (.int .i64 e.ts)).setCell ⟨g, 4, none⟩ (.int .i64 e.seq)).setCell ⟨g, 5, none⟩ (.int .i64 e.kind)).setCell ⟨g, 6, none⟩ e.vv
end Go.Proofs.YthhkpkfpifllkaaGreat

namespace Go.Proofs.YthhkpkfpifllkaaGreat
open Go.RowKit
set_option linter.unusedVariables false

end Go.Proofs.YthhkpkfpifllkaaGreat

namespace Go.Proofs.YthhkpkfpifllkaaGreat
open Go.RowKit
set_option linter.unusedVariables false

def bytesL (bs : List Nat) : List Nat := uintL bs.length ++ bs

def bytesR (bs : List Nat) (k most : Nat) : List Nat × Nat × Nat :=
  if (uintR bs k).2.2 ≠ 0 then ([], 0, (uintR bs k).2.2)
  else if most < (uintR bs k).1 then ([], 0, 13)
  else if bs.length < (uintR bs k).2.1 + (uintR bs k).1 then ([], 0, 10)
  else ((bs.drop (uintR bs k).2.1).take (uintR bs k).1, (uintR bs k).2.1 + (uintR bs k).1, 0)

end Go.Proofs.YthhkpkfpifllkaaGreat

namespace Go.Proofs.YthhkpkfpifllkaaGreat
open Go.RowKit
set_option linter.unusedVariables false

theorem heap_new (w : World) (o : Obj) : (w.alloc o).heap[w.heap.size]? = some o := by
  show (w.heap.push o)[w.heap.size]? = some o
  simp

end Go.Proofs.YthhkpkfpifllkaaGreat

namespace Go.Proofs.YthhkpkfpifllkaaGreat
open Go.RowKit
set_option linter.unusedVariables false

def plainD (vr vq vv : Value) : EntD := ⟨vr, 1, vq, 5, 32, 1, vv, [114], [113], [118]⟩
def zeroD : EntD := ⟨.slice none 0 0, 0, .slice none 0 0, 0, 0, 0, .slice none 0 0, [], [], []⟩
theorem rd_one {w : World} {g x : Nat} (h : w.cell? ⟨g, 0, none⟩ = some (.int .u8 (x : Int))) (hx : x < 256) : Rd w (.slice (some ⟨g, 0, none⟩) 1 1) [x] :=
  ⟨fun y hy => by simp at hy; omega, _, 1, rfl, Nat.le_refl _, by decide, by simp, .inr ⟨g, 0, rfl⟩, .inr ⟨g, 0, rfl, fun i hi => by
    obtain rfl : i = 0 := by simp at hi; omega
    simpa using h⟩⟩
def plainK : List Nat := [114, 0, 1, 1, 1, 113, 0, 1, 1, 127, 255, 255, 255, 255, 255, 255, 250, 127, 255, 255, 255, 255, 255, 255, 223, 1]
end Go.Proofs.YthhkpkfpifllkaaGreat

namespace Go.Proofs.YthhkpkfpifllkaaGreat
open Go.RowKit
set_option linter.unusedVariables false

end Go.Proofs.YthhkpkfpifllkaaGreat

namespace Go.Proofs.YthhkpkfpifllkaaGreat
open Go.RowKit
set_option linter.unusedVariables false

theorem EBox.cells7 {w : World} {g : Nat} {e : EntD} (h : EBox w g e) : w.cell? ⟨g, 0, none⟩ = some e.vr ∧ w.cell? ⟨g, 1, none⟩ = some (.int .i64 e.fam) ∧ w.cell? ⟨g, 2, none⟩ = some e.vq ∧ w.cell? ⟨g, 3, none⟩ = some (.int .i64 e.ts) ∧ w.cell? ⟨g, 4, none⟩ = some (.int .i64 e.seq) ∧ w.cell? ⟨g, 5, none⟩ = some (.int .i64 e.kind) ∧ w.cell? ⟨g, 6, none⟩ = some e.vv := ⟨h.vr, h.fam, h.vq, h.ts, h.seq, h.kind, h.vv⟩
def badD (vr vq vv : Value) (seq : Int) : EntD := ⟨vr, 1, vq, 0, seq, 1, vv, [114], [113], [118]⟩
end Go.Proofs.YthhkpkfpifllkaaGreat

namespace Go.Proofs.YthhkpkfpifllkaaGreat
open Go.RowKit
set_option linter.unusedVariables false

def Dif (xs ys : List Nat) (c : Int) : Prop :=
  (c = 0 ∧ xs = ys) ∨ (c = -1 ∧ ∃ p x y r s, xs = p ++ x :: r ∧ ys = p ++ y :: s ∧ x < y) ∨ (c = 1 ∧ ∃ p x y r s, xs = p ++ x :: r ∧ ys = p ++ y :: s ∧ y < x)
end Go.Proofs.YthhkpkfpifllkaaGreat

namespace Go.Proofs.YthhkpkfpifllkaaGreat
open Go.RowKit
set_option linter.unusedVariables false
end Go.Proofs.YthhkpkfpifllkaaGreat

namespace Go.Proofs.YthhkpkfpifllkaaGreat
open Go.RowKit
set_option linter.unusedVariables false

end Go.Proofs.YthhkpkfpifllkaaGreat

namespace Go.Proofs.YthhkpkfpifllkaaGreat
open Go.RowKit
set_option linter.unusedVariables false

end Go.Proofs.YthhkpkfpifllkaaGreat

namespace Go.Proofs.YthhkpkfpifllkaaGreat
open Go.RowKit
set_option linter.unusedVariables false

def packL (e : EntD) : List Nat := bytesL (keyL e) ++ bytesL e.val

def EntD.Same (a b : EntD) : Prop := a.fam = b.fam ∧ a.ts = b.ts ∧ a.seq = b.seq ∧ a.kind = b.kind ∧ a.row = b.row ∧ a.qual = b.qual ∧ a.val = b.val
end Go.Proofs.YthhkpkfpifllkaaGreat

namespace Go.Proofs.YthhkpkfpifllkaaGreat
open Go.RowKit
set_option linter.unusedVariables false

def Tri (a b c : Int) : Prop := (a ≤ 0 ∧ b ≤ 0 → c ≤ 0) ∧ (0 ≤ a ∧ 0 ≤ b → 0 ≤ c) ∧ (a ≤ 0 ∧ b ≤ 0 ∧ c = 0 → a = 0 ∧ b = 0) ∧ (0 ≤ a ∧ 0 ≤ b ∧ c = 0 → a = 0 ∧ b = 0) ∧ (a = 0 → c = b) ∧ (b = 0 → c = a)
theorem tri_cmpI (x y z : Int) : Tri (cmpI x y) (cmpI y z) (cmpI x z) := by
  unfold Tri cmpI
  repeat' split
  all_goals omega
theorem tri_lex {a b c a' b' c' : Int} (h : Tri a b c) (k : Tri a' b' c') : Tri (if a = 0 then a' else a) (if b = 0 then b' else b) (if c = 0 then c' else c) := by
  unfold Tri at *
  obtain ⟨h1, h2, h3, h4, h5, h6⟩ := h
  by_cases ha : a = 0
  · by_cases hb : b = 0
    · have hc : c = 0 := by rw [h5 ha]; exact hb
      rw [if_pos ha, if_pos hb, if_pos hc]; exact k
    · have hc : c = b := h5 ha
      have hc0 : ¬ c = 0 := by omega
      rw [if_pos ha, if_neg hb, if_neg hc0]
      refine ⟨?_, ?_, ?_, ?_, ?_, ?_⟩ <;> omega
  · by_cases hb : b = 0
    · have hc : c = a := h6 hb
      have hc0 : ¬ c = 0 := by omega
      rw [if_neg ha, if_pos hb, if_neg hc0]
      refine ⟨?_, ?_, ?_, ?_, ?_, ?_⟩ <;> omega
    · rw [if_neg ha, if_neg hb]
      by_cases hc : c = 0
      · rw [if_pos hc]
        have e1 : ¬ (a ≤ 0 ∧ b ≤ 0) := fun e => ha (h3 ⟨e.1, e.2, hc⟩).1
        have e2 : ¬ (0 ≤ a ∧ 0 ≤ b) := fun e => ha (h4 ⟨e.1, e.2, hc⟩).1
        refine ⟨?_, ?_, ?_, ?_, ?_, ?_⟩ <;> omega
      · rw [if_neg hc]; exact ⟨h1, h2, h3, h4, h5, h6⟩
theorem tri_zero : Tri 0 0 0 := by unfold Tri; omega
theorem ordC_cons (x y : Nat) (a b : List Nat) : ordC (x :: a) (y :: b) = if cmpI (x : Int) (y : Int) = 0 then ordC a b else cmpI (x : Int) (y : Int) := by
  have e : ordC (x :: a) (y :: b) = if x < y then -1 else if y < x then 1 else ordC a b := rfl
  rw [e]
  unfold cmpI
  by_cases h1 : x < y
  · simp [h1]
  · by_cases h2 : y < x
    · have : ¬ (x : Int) < y := by omega
      simp [h1, h2]
    · simp [h1, h2]
theorem tri_ordC : ∀ (x y z : List Nat), Tri (ordC x y) (ordC y z) (ordC x z)
  | [], [], [] => by simp only [ordC]; exact tri_zero
  | [], [], _ :: _ => by simp only [ordC]; unfold Tri; omega
  | [], _ :: _, [] => by simp only [ordC]; unfold Tri; omega
  | [], y :: b, z :: c => by
    have h : ordC [] (y :: b) = -1 := rfl
    have h2 : ordC [] (z :: c) = -1 := rfl
    rw [h, h2]; unfold Tri; omega
  | _ :: _, [], [] => by simp only [ordC]; unfold Tri; omega
  | x :: a, [], z :: c => by
    have h : ordC (x :: a) [] = 1 := rfl
    have h2 : ordC [] (z :: c) = -1 := rfl
    rw [h, h2]; unfold Tri; omega
  | x :: a, y :: b, [] => by
    have h : ordC (y :: b) [] = 1 := rfl
    have h2 : ordC (x :: a) [] = 1 := rfl
    rw [h, h2]; unfold Tri; omega
  | x :: a, y :: b, z :: c => by
    rw [ordC_cons, ordC_cons, ordC_cons]
    exact tri_lex (tri_cmpI _ _ _) (tri_ordC a b c)
theorem cmpI_swap (a b : Int) : cmpI b a = -cmpI a b := by
  unfold cmpI
  repeat' split
  all_goals omega
theorem lex_neg {a a' b b' : Int} (h : b = -a) (k : b' = -a') : (if b = 0 then b' else b) = -(if a = 0 then a' else a) := by
  subst h k
  by_cases ha : a = 0
  · rw [if_pos ha, if_pos (by omega)]
  · rw [if_neg ha, if_neg (by omega)]
theorem compareS_tri (x y z : EntD) : Tri (compareS x y) (compareS y z) (compareS x z) := by
  unfold compareS cmpsS
  simp only [firstNZ]
  have rev : ∀ a b c : Int, Tri (cmpI b a) (cmpI c b) (cmpI c a) := fun a b c => by
    rw [cmpI_swap a b, cmpI_swap b c, cmpI_swap a c]
    have h := tri_cmpI a b c
    unfold Tri at *
    omega
  refine tri_lex (tri_ordC _ _ _) (tri_lex (tri_cmpI _ _ _) (tri_lex ?_ (tri_lex (tri_ordC _ _ _) (tri_lex ?_ (tri_lex (rev _ _ _) (tri_lex (rev _ _ _) (tri_lex (tri_cmpI _ _ _) tri_zero)))))))
  · exact tri_cmpI _ _ _
  · exact tri_cmpI _ _ _
theorem compareS_swap (x y : EntD) : compareS y x = -compareS x y := by
  unfold compareS cmpsS
  simp only [firstNZ]
  exact lex_neg (ordC_swap _ _) (lex_neg (cmpI_swap _ _) (lex_neg (cmpI_swap _ _) (lex_neg (ordC_swap _ _) (lex_neg (cmpI_swap _ _) (lex_neg (cmpI_swap _ _) (lex_neg (cmpI_swap _ _) (lex_neg (cmpI_swap _ _) (by omega))))))))
theorem compareS_self (x : EntD) : compareS x x = 0 := by
  have := compareS_swap x x
  omega
theorem compareS_same {a b c d : EntD} (h : EntD.Same a c) (k : EntD.Same b d) : compareS a b = compareS c d := by
  obtain ⟨h1, h2, h3, h4, h5, h6, h7⟩ := h
  obtain ⟨k1, k2, k3, k4, k5, k6, k7⟩ := k
  unfold compareS cmpsS aheadS
  rw [h1, h2, h3, h4, h5, h6, k1, k2, k3, k4, k5, k6]
end Go.Proofs.YthhkpkfpifllkaaGreat

namespace Go.Proofs.YthhkpkfpifllkaaGreat
open Go.RowKit
set_option linter.unusedVariables false

structure En where
  row : List Nat
  fam : Int
  qual : List Nat
  ts : Int
  seq : Int
  kind : Int
  val : List Nat
def EntD.dat (e : EntD) : En := ⟨e.row, e.fam, e.qual, e.ts, e.seq, e.kind, e.val⟩
theorem EntD.dat_same {a b : EntD} : a.dat = b.dat ↔ EntD.Same a b := by
  unfold EntD.dat EntD.Same
  simp only [En.mk.injEq]
  exact ⟨fun ⟨h1, h2, h3, h4, h5, h6, h7⟩ => ⟨h2, h4, h5, h6, h1, h3, h7⟩, fun ⟨h2, h4, h5, h6, h1, h3, h7⟩ => ⟨h1, h2, h3, h4, h5, h6, h7⟩⟩
structure Vd where
  e : En
  fate : Int
  rank : Int
structure Sp where
  begun : Bool
  last : En
  family : Int
  mask : Int
  rank : Int
  waiting : Bool
  seq : Int
def enZ : En := ⟨[], 0, [], 0, 0, 0, []⟩
def Sp.zero : Sp := ⟨false, enZ, 0, 0, 0, false, 0⟩
def famAt (fs : List (Int × Int)) (i : Int) : Int × Int := fs.getD i.toNat (0, 0)
def decideS (fs : List (Int × Int)) (clock : Int) (s : Sp) (e : En) : Vd × Sp :=
  if e.ts ≤ s.mask then (⟨e, 2, 0⟩, s)
  else if 0 < (famAt fs e.fam).2 ∧ e.ts + (famAt fs e.fam).2 ≤ clock then (⟨e, 3, 0⟩, s)
  else if e.kind = 3 then (⟨e, 6, 0⟩, s)
  else (⟨e, if (famAt fs e.fam).1 < s.rank + 1 then 4 else 5, s.rank + 1⟩, { s with rank := s.rank + 1 })
def resolveS (fs : List (Int × Int)) (clock : Int) (s : Sp) (kind : Int) : List Vd × Sp :=
  if s.waiting then ([(decideS fs clock { s with waiting := false } { s.last with seq := s.seq, kind := kind }).1], (decideS fs clock { s with waiting := false } { s.last with seq := s.seq, kind := kind }).2) else ([], s)
def stretchS (s : Sp) (e : En) : Vd × Sp :=
  if e.ts ≤ s.mask then (⟨e, 8, 0⟩, s) else (⟨e, 7, 0⟩, { s with mask := e.ts, family := if e.kind = 5 then e.ts else s.family })
def sameFam (s : Sp) (e : En) : Bool := s.begun && decide (s.last.fam = e.fam) && decide (s.last.row = e.row)
def sameCol (s : Sp) (e : En) : Bool := sameFam s e && decide (s.last.kind ≠ 5) && decide (s.last.qual = e.qual)
def sameGrp (s : Sp) (e : En) : Bool := sameCol s e && decide (s.last.kind ≠ 4) && decide (s.last.ts = e.ts)
def leftS (s1 : Sp) (f c : Bool) : Sp :=
  let s2 := if f then s1 else { s1 with family := 0 }
  if c then s2 else { s2 with mask := s2.family, rank := 0 }
def enterS (fs : List (Int × Int)) (clock : Int) (s : Sp) (e : En) : List Vd × Sp :=
  if sameGrp s e then ([], s) else ((resolveS fs clock s 3).1, leftS (resolveS fs clock s 3).2 (sameFam s e) (sameCol s e))
def rememberS (s : Sp) (e : En) : Sp := { s with begun := true, last := e }
def stepS (fs : List (Int × Int)) (clock : Int) (s : Sp) (e : En) : List Vd × Sp :=
  if e.kind = 5 ∨ e.kind = 4 then ((enterS fs clock s e).1 ++ [(stretchS (enterS fs clock s e).2 e).1], rememberS (stretchS (enterS fs clock s e).2 e).2 e)
  else if sameGrp s e then
    if e.kind ≠ 3 then ((enterS fs clock s e).1 ++ ((resolveS fs clock (enterS fs clock s e).2 2).1 ++ [⟨e, 1, 0⟩]), rememberS (resolveS fs clock (enterS fs clock s e).2 2).2 e)
    else ((enterS fs clock s e).1 ++ [⟨e, 1, 0⟩], rememberS (enterS fs clock s e).2 e)
  else if e.kind = 3 then ((enterS fs clock s e).1, rememberS { (enterS fs clock s e).2 with waiting := true, seq := e.seq } e)
  else ((enterS fs clock s e).1 ++ [(decideS fs clock (enterS fs clock s e).2 e).1], rememberS (decideS fs clock (enterS fs clock s e).2 e).2 e)
def walkS (fs : List (Int × Int)) (clock : Int) : Sp → List En → List Vd × Sp
  | s, [] => ([], s)
  | s, e :: l => ((stepS fs clock s e).1 ++ (walkS fs clock (stepS fs clock s e).2 l).1, (walkS fs clock (stepS fs clock s e).2 l).2)
def verdictsS (fs : List (Int × Int)) (clock : Int) (l : List En) : List Vd := (walkS fs clock Sp.zero l).1 ++ (resolveS fs clock (walkS fs clock Sp.zero l).2 3).1
structure Fit (n : Nat) (e : En) : Prop where
  row : e.row.length ≤ 256
  qual : e.qual.length ≤ 256
  val : e.val.length ≤ 4096
  ts0 : 1 ≤ e.ts
  ts : e.ts ≤ 1099511627776
  fam0 : 0 ≤ e.fam
  fam : e.fam < n
end Go.Proofs.YthhkpkfpifllkaaGreat

namespace Go.Proofs.YthhkpkfpifllkaaGreat
open Go.RowKit
set_option linter.unusedVariables false

/-! ### Trees of entries -/
inductive BT where
  | leaf
  | node (l : BT) (e : EntD) (r : BT)
def BT.ht : BT → Nat
  | .leaf => 0
  | .node l _ r => 1 + max l.ht r.ht
def BT.ord : BT → List EntD
  | .leaf => []
  | .node l e r => l.ord ++ e :: r.ord
def BT.size (t : BT) : Nat := t.ord.length
def balS (l : BT) (e : EntD) (r : BT) : BT :=
  if r.ht + 1 < l.ht then
    match l with
    | .leaf => .node l e r
    | .node ll le lr =>
      if ll.ht < lr.ht then
        match lr with
        | .leaf => .node ll le (.node lr e r)
        | .node ml me mr => .node (.node ll le ml) me (.node mr e r)
      else .node ll le (.node lr e r)
  else if l.ht + 1 < r.ht then
    match r with
    | .leaf => .node l e r
    | .node rl re rr =>
      if rr.ht < rl.ht then
        match rl with
        | .leaf => .node (.node l e rl) re rr
        | .node ml me mr => .node (.node l e ml) me (.node mr re rr)
      else .node (.node l e rl) re rr
  else .node l e r
def hangS (x : EntD) : BT → BT
  | .leaf => .node .leaf x .leaf
  | .node l e r => if compareS x e < 0 then balS (hangS x l) e r else balS l e (hangS x r)
def Srt (l : List EntD) : Prop := l.Pairwise fun a b => compareS a b < 0
/-! ### Where they lie -/
structure KpG (G : Nat → Prop) (w w' : World) : Prop where
  size : w.heap.size ≤ w'.heap.size
  block : ∀ i, i < w.heap.size → G i → w'.heap[i]? = w.heap[i]?
theorem KpG.refl (G : Nat → Prop) (w : World) : KpG G w w := ⟨Nat.le_refl _, fun _ _ _ => rfl⟩
def RdG (G : Nat → Prop) (w : World) (v : Value) (bs : List Nat) : Prop := Rd w v bs ∧ ∀ b off m c, v = .slice (some ⟨b, off, none⟩) m c → 0 < m → G b ∧ ∃ cur fr, w.heap[b]? = some (.cells cur 5 fr)
theorem RdG.kept {G : Nat → Prop} {w w' : World} {v : Value} {bs : List Nat} (h : RdG G w v bs) (hk : KpG G w w') : RdG G w' v bs := by
  obtain ⟨⟨h1, a, cap, rfl, h3, h4, h5, h6, h7⟩, hg⟩ := h
  refine ⟨⟨h1, a, cap, rfl, h3, h4, h5, h6, ?_⟩, fun b off m c e hm => ?_⟩
  · rcases h7 with h7 | ⟨b, off, rfl, hc⟩
    · exact .inl h7
    · by_cases h0 : bs = []
      · exact .inl h0
      · refine .inr ⟨b, off, rfl, fun i hi => ?_⟩
        rw [World.cell?_of_block (w := w) (a := ⟨b, off + i, none⟩) (hk.block b (World.block_lt_of_cell? w _ (hc i hi)) (hg b off _ _ rfl (by omega)).1)]
        exact hc i hi
  · obtain ⟨h8, cur, fr, h9⟩ := hg b off m c e hm
    exact ⟨h8, cur, fr, (hk.block b (Array.getElem?_eq_some_iff.1 h9).1 h8).trans h9⟩
theorem RdG.mono {G G' : Nat → Prop} {w : World} {v : Value} {bs : List Nat} (h : RdG G w v bs) (hg : ∀ i, G i → G' i) : RdG G' w v bs := ⟨h.1, fun b off m c e hm => ⟨hg b (h.2 b off m c e hm).1, (h.2 b off m c e hm).2⟩⟩
theorem RdG.of_own {G : Nat → Prop} {w : World} {B : Nat} {v : Value} {m : Nat} {bs : List Nat} (h : Own w B v m bs) (hb : Bys bs) (hl : m ≤ 281474976710656) (hG : ∀ i, B ≤ i → G i) : RdG G w v bs := by
  refine ⟨h.rd hb hl, fun b off k c e hk => ?_⟩
  rcases h.2.2 with ⟨rfl, rfl⟩ | ⟨g, cap, cur, rfl, hB, hcur, _⟩
  · cases e
  · cases e; exact ⟨hG _ hB, cur, _, hcur⟩
def KU (w w' : World) : Prop := ∀ (i : Nat) (cur : Array Value) (fr : Nat × Nat), w.heap[i]? = some (.cells cur 5 fr) → w'.heap[i]? = some (.cells cur 5 fr)
theorem KU.trans {a b c : World} (h : KU a b) (k : KU b c) : KU a c := fun i cur fr hi => k i cur fr (h i cur fr hi)
theorem KU.of {w w' : World} (h : Below w.heap.size w w') : KU w w' := fun i cur fr hi => (h.block i (Array.getElem?_eq_some_iff.1 hi).1).trans hi
theorem KU.grown {w w' : World} {row : Option Nat} (hg : w.grownBy w' row) (hr : ∀ r, row = some r → ∃ cs t fr, w.heap[r]? = some (.cells cs t fr) ∧ t ≠ 5) : KU w w' := fun j cur fr hj =>
  (hg.block j (Array.getElem?_eq_some_iff.1 hj).1 (fun e => by
    obtain ⟨cs, t, fr', h1, h2⟩ := hr j e.symm
    rw [h1] at hj; cases hj; exact h2 rfl)).trans hj
def EOk (G : Nat → Prop) (w : World) (e : EntD) : Prop := RdG G w e.vr e.row ∧ RdG G w e.vq e.qual ∧ RdG G w e.vv e.val
theorem EOk.kept {G : Nat → Prop} {w w' : World} {e : EntD} (h : EOk G w e) (hk : KpG G w w') : EOk G w' e := ⟨h.1.kept hk, h.2.1.kept hk, h.2.2.kept hk⟩
theorem EOk.mono {G G' : Nat → Prop} {w : World} {e : EntD} (h : EOk G w e) (hg : ∀ i, G i → G' i) : EOk G' w e := ⟨h.1.mono hg, h.2.1.mono hg, h.2.2.mono hg⟩

def nodeC (e : EntD) (l r : Option Addr) (h : Nat) : Array Value := #[e.vr, .int .i64 e.fam, e.vq, .int .i64 e.ts, .int .i64 e.seq, .int .i64 e.kind, e.vv, .pointer l, .pointer r, .int .i64 (h : Int)]
end Go.Proofs.YthhkpkfpifllkaaGreat
