import Derived.Test.YthhkpkfpifllkaaK01
import Derived.Laws.EntriesVeiled
import Derived.Handy
import Derived.Lib.SmallJoins
import Derived.Lib.Hide
namespace Go.Proofs.Ythhkpkfpifllkaa
open Go.RowKit
set_option linter.unusedVariables false

def cmpsS (a b : EntD) : List Int := [ordC a.row b.row, cmpI a.fam b.fam, aheadS a b 5, ordC a.qual b.qual, aheadS a b 4, cmpI b.ts a.ts, cmpI b.seq a.seq, cmpI a.kind b.kind]
def firstNZ : List Int → Int
  | [] => 0
  | x :: r => if x = 0 then firstNZ r else x
def compareS (a b : EntD) : Int := firstNZ (cmpsS a b)
theorem firstNZ_at : ∀ (l : List Int) (t : Nat), (∀ j, j < t → l.getD j 0 = 0) → l.getD t 0 ≠ 0 → firstNZ l = l.getD t 0
  | [], t, _, h => by simp at h
  | x :: r, 0, _, h => by simp at h ⊢; simp [firstNZ, h]
  | x :: r, t + 1, h0, h => by
    have hx : x = 0 := by simpa using h0 0 (by omega)
    have := firstNZ_at r t (fun j hj => by simpa using h0 (j + 1) (by omega)) (by simpa using h)
    simp [firstNZ, hx]
    simpa using this
theorem firstNZ_none : ∀ (l : List Int), (∀ j, j < l.length → l.getD j 0 = 0) → firstNZ l = 0
  | [], _ => rfl
  | x :: r, h => by
    have hx : x = 0 := by simpa using h 0 (by simp)
    have := firstNZ_none r (fun j hj => by simpa using h (j + 1) (by simp; omega))
    simp [firstNZ, hx, this]

set_option maxRecDepth 100000 in
set_option maxHeartbeats 1000000 in
theorem order_fns (w : World) : Calls Try.prog 49 #[] w fun r w' => r = .returned (.agg #[.func (.func 71) #[] #[], .func (.func 73) #[] #[], .func (.func 75) #[] #[], .func (.func 77) #[] #[], .func (.func 78) #[] #[], .func (.func 79) #[] #[], .func (.func 80) #[] #[], .func (.func 81) #[] #[]]) ∧ Below w.heap.size w w' := by
  have A1 := (Below.refl w.heap.size w).alloc (Nat.le_refl _) (.cells #[.func (.func 71) #[] #[], .func (.func 73) #[] #[], .func (.func 75) #[] #[], .func (.func 77) #[] #[], .func (.func 78) #[] #[], .func (.func 79) #[] #[], .func (.func 80) #[] #[], .func (.func 81) #[] #[]] 104)
  go_enter Try.func49, Try.ntmps49
  go_wp2
  go_returns
  exact ⟨rfl, A1⟩

set_option maxRecDepth 100000 in
set_option maxHeartbeats 8000000 in
theorem compare_any {a b : EntD} {w : World} (ha : EntD.Ok w a) (hb : EntD.Ok w b) :
    Calls Try.prog 35 #[.agg a.cells, .agg b.cells] w fun r w' => r = .returned (.int .i64 (compareS a b)) ∧ Below w.heap.size w w' := by
  have A1 := (Below.refl w.heap.size w).alloc (Nat.le_refl _) (.cells a.cells 45)
  have A2 := A1.alloc A1.size (.cells b.cells 45)
  have bxa0 := (EBox.new w a).later ((Below.refl (w.alloc (.cells a.cells 45)).heap.size (w.alloc (.cells a.cells 45))).alloc (Nat.le_refl _) (.cells b.cells 45))
  have bxb0 := EBox.new (w.alloc (.cells a.cells 45)) b
  rw [World.size_alloc] at bxb0
  have BXA0 : Hid (EBox _ w.heap.size a) := bxa0
  have BXB0 : Hid (EBox _ (w.heap.size + 1) b) := bxb0
  have HA : Hid (EntD.Ok w a) := ha
  have HB : Hid (EntD.Ok w b) := hb
  obtain ⟨va, hva⟩ : ∃ v, v = a.cells := ⟨_, rfl⟩
  clear A1 bxa0 bxb0 ha hb hva va
  go_enter Try.func35, Try.ntmps35
  go_wp2_with fail
  refine (order_fns _).mono ?_
  rintro e1 w1 ⟨rfl, hb1⟩
  have B1 := A2.trans (hb1.mono A2.size)
  have BXA1 := BXA0.out.later hb1
  have BXB1 := BXB0.out.later hb1
  clear A2 BXA0 BXB0 hb1
  go_wp2
  go_loopw [6, 7, 9] (fun f n i wr => ∃ t : Nat, t ≤ 8 ∧ i = .int .i64 (t : Int) ∧ (∀ j, j < t → (cmpsS a b).getD j 0 = 0) ∧ EBox wr w.heap.size a ∧ EBox wr (w.heap.size + 1) b ∧ Below w.heap.size w wr) (fun _ _ i _ => 8 - (intOf i).toNat)
  case atStart => exact ⟨0, by omega, rfl, fun j hj => by omega, BXA1, BXB1, B1⟩
  case round =>
    obtain ⟨t, ht8, rfl, hz, bxa, bxb, hb1⟩ := hrel
    have HZ : Hid (∀ j, j < t → (cmpsS a b).getD j 0 = 0) := hz
    have BXA : Hid (EBox wr w.heap.size a) := bxa
    have BXB : Hid (EBox wr (w.heap.size + 1) b) := bxb
    clear hz
    by_cases hlt : t < 8
    · obtain ⟨S, hS⟩ : ∃ S, S = (cmpsS a b).getD t 0 := ⟨_, rfl⟩
      have HS : Hid (S = (cmpsS a b).getD t 0) := hS
      clear hS
      have ca0 := bxa.vr
      have ca1 := bxa.fam
      have ca2 := bxa.vq
      have ca3 := bxa.ts
      have ca4 := bxa.seq
      have ca5 := bxa.kind
      have ca6 := bxa.vv
      have cb0 := bxb.vr
      have cb1 := bxb.fam
      have cb2 := bxb.vq
      have cb3 := bxb.ts
      have cb4 := bxb.seq
      have cb5 := bxb.kind
      have cb6 := bxb.vv
      rcases (show t = 0 ∨ t = 1 ∨ t = 2 ∨ t = 3 ∨ t = 4 ∨ t = 5 ∨ t = 6 ∨ t = 7 by omega) with rfl | rfl | rfl | rfl | rfl | rfl | rfl | rfl
      · have HC : Hid (∀ w2, Below w.heap.size w w2 → Calls Try.prog 71 #[.agg a.cells, .agg b.cells] w2 fun r w' => r = .returned (.int .i64 S) ∧ Below w2.heap.size w2 w') := fun w2 h2 => by rw [HS.out]; exact ord1_any (HA.out.later h2) (HB.out.later h2)
        have hidx : ∀ w, (Instr.index 104 (.agg #[.func (.func 71) #[] #[], .func (.func 73) #[] #[], .func (.func 75) #[] #[], .func (.func 77) #[] #[], .func (.func 78) #[] #[], .func (.func 79) #[] #[], .func (.func 80) #[] #[], .func (.func 81) #[] #[]]) (.int .i64 0)).run Try.prog w = .ok (.func (.func 71) #[] #[]) w := fun _ => by kernel_rfl
        by_cases hz : S = 0
        · have HZ2 : Hid (∀ j, j < 1 → (cmpsS a b).getD j 0 = 0) := fun j hj => by
            by_cases h : j < 0
            · exact HZ.out j h
            · obtain rfl : j = 0 := by omega
              rw [← HS.out]; exact hz
          subst hz
          have HC2 := HC.out wr hb1
          have HC3 : Hid (Calls Try.prog 71 #[.agg a.cells, .agg b.cells] wr fun r w' => r = .returned (.int .i64 0) ∧ Below wr.heap.size wr w') := HC2
          clear HC HC2 HS
          simp only [EntD.cells] at bxa bxb HC3
          go_wp2_with fail
          refine HC3.out.mono ?_
          rintro e2 w2 ⟨rfl, hb2⟩
          have B2 := hb1.trans (hb2.mono hb1.size)
          have bxa2 := BXA.out.later hb2
          have bxb2 := BXB.out.later hb2
          go_wp2
          go_roundw
          case rel => exact ⟨1, by omega, by go_num, HZ2.out, bxa2, bxb2, B2⟩
          case measure => simp [intOf]
        · have HR : Hid (compareS a b = S) := by unfold Hid compareS; rw [firstNZ_at _ 0 HZ.out (by rw [← HS.out]; exact hz), HS.out]
          have hz1 : (S != 0) = true := by simp; exact hz
          have HC2 := HC.out wr hb1
          have HC3 : Hid (Calls Try.prog 71 #[.agg a.cells, .agg b.cells] wr fun r w' => r = .returned (.int .i64 S) ∧ Below wr.heap.size wr w') := HC2
          clear HC HC2 HS
          simp only [EntD.cells] at bxa bxb HC3
          go_wp2_with fail
          refine HC3.out.mono ?_
          rintro e2 w2 ⟨rfl, hb2⟩
          have B2 := hb1.trans (hb2.mono hb1.size)
          go_wp2
          go_ret
          exact ⟨by rw [HR.out]; rfl, B2⟩
      · have HC : Hid (∀ w2, Below w.heap.size w w2 → Calls Try.prog 73 #[.agg a.cells, .agg b.cells] w2 fun r w' => r = .returned (.int .i64 S) ∧ Below w2.heap.size w2 w') := fun w2 h2 => by rw [HS.out]; exact ord2_any (HA.out.later h2) (HB.out.later h2)
        have hidx : ∀ w, (Instr.index 104 (.agg #[.func (.func 71) #[] #[], .func (.func 73) #[] #[], .func (.func 75) #[] #[], .func (.func 77) #[] #[], .func (.func 78) #[] #[], .func (.func 79) #[] #[], .func (.func 80) #[] #[], .func (.func 81) #[] #[]]) (.int .i64 1)).run Try.prog w = .ok (.func (.func 73) #[] #[]) w := fun _ => by kernel_rfl
        by_cases hz : S = 0
        · have HZ2 : Hid (∀ j, j < 2 → (cmpsS a b).getD j 0 = 0) := fun j hj => by
            by_cases h : j < 1
            · exact HZ.out j h
            · obtain rfl : j = 1 := by omega
              rw [← HS.out]; exact hz
          subst hz
          have HC2 := HC.out wr hb1
          have HC3 : Hid (Calls Try.prog 73 #[.agg a.cells, .agg b.cells] wr fun r w' => r = .returned (.int .i64 0) ∧ Below wr.heap.size wr w') := HC2
          clear HC HC2 HS
          simp only [EntD.cells] at bxa bxb HC3
          go_wp2_with fail
          refine HC3.out.mono ?_
          rintro e2 w2 ⟨rfl, hb2⟩
          have B2 := hb1.trans (hb2.mono hb1.size)
          have bxa2 := BXA.out.later hb2
          have bxb2 := BXB.out.later hb2
          go_wp2
          go_roundw
          case rel => exact ⟨2, by omega, by go_num, HZ2.out, bxa2, bxb2, B2⟩
          case measure => simp [intOf]
        · have HR : Hid (compareS a b = S) := by unfold Hid compareS; rw [firstNZ_at _ 1 HZ.out (by rw [← HS.out]; exact hz), HS.out]
          have hz1 : (S != 0) = true := by simp; exact hz
          have HC2 := HC.out wr hb1
          have HC3 : Hid (Calls Try.prog 73 #[.agg a.cells, .agg b.cells] wr fun r w' => r = .returned (.int .i64 S) ∧ Below wr.heap.size wr w') := HC2
          clear HC HC2 HS
          simp only [EntD.cells] at bxa bxb HC3
          go_wp2_with fail
          refine HC3.out.mono ?_
          rintro e2 w2 ⟨rfl, hb2⟩
          have B2 := hb1.trans (hb2.mono hb1.size)
          go_wp2
          go_ret
          exact ⟨by rw [HR.out]; rfl, B2⟩
      · have HC : Hid (∀ w2, Below w.heap.size w w2 → Calls Try.prog 75 #[.agg a.cells, .agg b.cells] w2 fun r w' => r = .returned (.int .i64 S) ∧ Below w2.heap.size w2 w') := fun w2 h2 => by rw [HS.out]; exact ord3_any (HA.out.later h2) (HB.out.later h2)
        have hidx : ∀ w, (Instr.index 104 (.agg #[.func (.func 71) #[] #[], .func (.func 73) #[] #[], .func (.func 75) #[] #[], .func (.func 77) #[] #[], .func (.func 78) #[] #[], .func (.func 79) #[] #[], .func (.func 80) #[] #[], .func (.func 81) #[] #[]]) (.int .i64 2)).run Try.prog w = .ok (.func (.func 75) #[] #[]) w := fun _ => by kernel_rfl
        by_cases hz : S = 0
        · have HZ2 : Hid (∀ j, j < 3 → (cmpsS a b).getD j 0 = 0) := fun j hj => by
            by_cases h : j < 2
            · exact HZ.out j h
            · obtain rfl : j = 2 := by omega
              rw [← HS.out]; exact hz
          subst hz
          have HC2 := HC.out wr hb1
          have HC3 : Hid (Calls Try.prog 75 #[.agg a.cells, .agg b.cells] wr fun r w' => r = .returned (.int .i64 0) ∧ Below wr.heap.size wr w') := HC2
          clear HC HC2 HS
          simp only [EntD.cells] at bxa bxb HC3
          go_wp2_with fail
          refine HC3.out.mono ?_
          rintro e2 w2 ⟨rfl, hb2⟩
          have B2 := hb1.trans (hb2.mono hb1.size)
          have bxa2 := BXA.out.later hb2
          have bxb2 := BXB.out.later hb2
          go_wp2
          go_roundw
          case rel => exact ⟨3, by omega, by go_num, HZ2.out, bxa2, bxb2, B2⟩
          case measure => simp [intOf]
        · have HR : Hid (compareS a b = S) := by unfold Hid compareS; rw [firstNZ_at _ 2 HZ.out (by rw [← HS.out]; exact hz), HS.out]
          have hz1 : (S != 0) = true := by simp; exact hz
          have HC2 := HC.out wr hb1
          have HC3 : Hid (Calls Try.prog 75 #[.agg a.cells, .agg b.cells] wr fun r w' => r = .returned (.int .i64 S) ∧ Below wr.heap.size wr w') := HC2
          clear HC HC2 HS
          simp only [EntD.cells] at bxa bxb HC3
          go_wp2_with fail
          refine HC3.out.mono ?_
          rintro e2 w2 ⟨rfl, hb2⟩
          have B2 := hb1.trans (hb2.mono hb1.size)
          go_wp2
          go_ret
          exact ⟨by rw [HR.out]; rfl, B2⟩
      · have HC : Hid (∀ w2, Below w.heap.size w w2 → Calls Try.prog 77 #[.agg a.cells, .agg b.cells] w2 fun r w' => r = .returned (.int .i64 S) ∧ Below w2.heap.size w2 w') := fun w2 h2 => by rw [HS.out]; exact ord4_any (HA.out.later h2) (HB.out.later h2)
        have hidx : ∀ w, (Instr.index 104 (.agg #[.func (.func 71) #[] #[], .func (.func 73) #[] #[], .func (.func 75) #[] #[], .func (.func 77) #[] #[], .func (.func 78) #[] #[], .func (.func 79) #[] #[], .func (.func 80) #[] #[], .func (.func 81) #[] #[]]) (.int .i64 3)).run Try.prog w = .ok (.func (.func 77) #[] #[]) w := fun _ => by kernel_rfl
        by_cases hz : S = 0
        · have HZ2 : Hid (∀ j, j < 4 → (cmpsS a b).getD j 0 = 0) := fun j hj => by
            by_cases h : j < 3
            · exact HZ.out j h
            · obtain rfl : j = 3 := by omega
              rw [← HS.out]; exact hz
          subst hz
          have HC2 := HC.out wr hb1
          have HC3 : Hid (Calls Try.prog 77 #[.agg a.cells, .agg b.cells] wr fun r w' => r = .returned (.int .i64 0) ∧ Below wr.heap.size wr w') := HC2
          clear HC HC2 HS
          simp only [EntD.cells] at bxa bxb HC3
          go_wp2_with fail
          refine HC3.out.mono ?_
          rintro e2 w2 ⟨rfl, hb2⟩
          have B2 := hb1.trans (hb2.mono hb1.size)
          have bxa2 := BXA.out.later hb2
          have bxb2 := BXB.out.later hb2
          go_wp2
          go_roundw
          case rel => exact ⟨4, by omega, by go_num, HZ2.out, bxa2, bxb2, B2⟩
          case measure => simp [intOf]
        · have HR : Hid (compareS a b = S) := by unfold Hid compareS; rw [firstNZ_at _ 3 HZ.out (by rw [← HS.out]; exact hz), HS.out]
          have hz1 : (S != 0) = true := by simp; exact hz
          have HC2 := HC.out wr hb1
          have HC3 : Hid (Calls Try.prog 77 #[.agg a.cells, .agg b.cells] wr fun r w' => r = .returned (.int .i64 S) ∧ Below wr.heap.size wr w') := HC2
          clear HC HC2 HS
          simp only [EntD.cells] at bxa bxb HC3
          go_wp2_with fail
          refine HC3.out.mono ?_
          rintro e2 w2 ⟨rfl, hb2⟩
          have B2 := hb1.trans (hb2.mono hb1.size)
          go_wp2
          go_ret
          exact ⟨by rw [HR.out]; rfl, B2⟩
      · have HC : Hid (∀ w2, Below w.heap.size w w2 → Calls Try.prog 78 #[.agg a.cells, .agg b.cells] w2 fun r w' => r = .returned (.int .i64 S) ∧ Below w2.heap.size w2 w') := fun w2 h2 => by rw [HS.out]; exact ord5_any (HA.out.later h2) (HB.out.later h2)
        have hidx : ∀ w, (Instr.index 104 (.agg #[.func (.func 71) #[] #[], .func (.func 73) #[] #[], .func (.func 75) #[] #[], .func (.func 77) #[] #[], .func (.func 78) #[] #[], .func (.func 79) #[] #[], .func (.func 80) #[] #[], .func (.func 81) #[] #[]]) (.int .i64 4)).run Try.prog w = .ok (.func (.func 78) #[] #[]) w := fun _ => by kernel_rfl
        by_cases hz : S = 0
        · have HZ2 : Hid (∀ j, j < 5 → (cmpsS a b).getD j 0 = 0) := fun j hj => by
            by_cases h : j < 4
            · exact HZ.out j h
            · obtain rfl : j = 4 := by omega
              rw [← HS.out]; exact hz
          subst hz
          have HC2 := HC.out wr hb1
          have HC3 : Hid (Calls Try.prog 78 #[.agg a.cells, .agg b.cells] wr fun r w' => r = .returned (.int .i64 0) ∧ Below wr.heap.size wr w') := HC2
          clear HC HC2 HS
          simp only [EntD.cells] at bxa bxb HC3
          go_wp2_with fail
          refine HC3.out.mono ?_
          rintro e2 w2 ⟨rfl, hb2⟩
          have B2 := hb1.trans (hb2.mono hb1.size)
          have bxa2 := BXA.out.later hb2
          have bxb2 := BXB.out.later hb2
          go_wp2
          go_roundw
          case rel => exact ⟨5, by omega, by go_num, HZ2.out, bxa2, bxb2, B2⟩
          case measure => simp [intOf]
        · have HR : Hid (compareS a b = S) := by unfold Hid compareS; rw [firstNZ_at _ 4 HZ.out (by rw [← HS.out]; exact hz), HS.out]
          have hz1 : (S != 0) = true := by simp; exact hz
          have HC2 := HC.out wr hb1
          have HC3 : Hid (Calls Try.prog 78 #[.agg a.cells, .agg b.cells] wr fun r w' => r = .returned (.int .i64 S) ∧ Below wr.heap.size wr w') := HC2
          clear HC HC2 HS
          simp only [EntD.cells] at bxa bxb HC3
          go_wp2_with fail
          refine HC3.out.mono ?_
          rintro e2 w2 ⟨rfl, hb2⟩
          have B2 := hb1.trans (hb2.mono hb1.size)
          go_wp2
          go_ret
          exact ⟨by rw [HR.out]; rfl, B2⟩
      · have HC : Hid (∀ w2, Below w.heap.size w w2 → Calls Try.prog 79 #[.agg a.cells, .agg b.cells] w2 fun r w' => r = .returned (.int .i64 S) ∧ Below w2.heap.size w2 w') := fun w2 h2 => by rw [HS.out]; exact ord6_any (HA.out.later h2) (HB.out.later h2)
        have hidx : ∀ w, (Instr.index 104 (.agg #[.func (.func 71) #[] #[], .func (.func 73) #[] #[], .func (.func 75) #[] #[], .func (.func 77) #[] #[], .func (.func 78) #[] #[], .func (.func 79) #[] #[], .func (.func 80) #[] #[], .func (.func 81) #[] #[]]) (.int .i64 5)).run Try.prog w = .ok (.func (.func 79) #[] #[]) w := fun _ => by kernel_rfl
        by_cases hz : S = 0
        · have HZ2 : Hid (∀ j, j < 6 → (cmpsS a b).getD j 0 = 0) := fun j hj => by
            by_cases h : j < 5
            · exact HZ.out j h
            · obtain rfl : j = 5 := by omega
              rw [← HS.out]; exact hz
          subst hz
          have HC2 := HC.out wr hb1
          have HC3 : Hid (Calls Try.prog 79 #[.agg a.cells, .agg b.cells] wr fun r w' => r = .returned (.int .i64 0) ∧ Below wr.heap.size wr w') := HC2
          clear HC HC2 HS
          simp only [EntD.cells] at bxa bxb HC3
          go_wp2_with fail
          refine HC3.out.mono ?_
          rintro e2 w2 ⟨rfl, hb2⟩
          have B2 := hb1.trans (hb2.mono hb1.size)
          have bxa2 := BXA.out.later hb2
          have bxb2 := BXB.out.later hb2
          go_wp2
          go_roundw
          case rel => exact ⟨6, by omega, by go_num, HZ2.out, bxa2, bxb2, B2⟩
          case measure => simp [intOf]
        · have HR : Hid (compareS a b = S) := by unfold Hid compareS; rw [firstNZ_at _ 5 HZ.out (by rw [← HS.out]; exact hz), HS.out]
          have hz1 : (S != 0) = true := by simp; exact hz
          have HC2 := HC.out wr hb1
          have HC3 : Hid (Calls Try.prog 79 #[.agg a.cells, .agg b.cells] wr fun r w' => r = .returned (.int .i64 S) ∧ Below wr.heap.size wr w') := HC2
          clear HC HC2 HS
          simp only [EntD.cells] at bxa bxb HC3
          go_wp2_with fail
          refine HC3.out.mono ?_
          rintro e2 w2 ⟨rfl, hb2⟩
          have B2 := hb1.trans (hb2.mono hb1.size)
          go_wp2
          go_ret
          exact ⟨by rw [HR.out]; rfl, B2⟩
      · have HC : Hid (∀ w2, Below w.heap.size w w2 → Calls Try.prog 80 #[.agg a.cells, .agg b.cells] w2 fun r w' => r = .returned (.int .i64 S) ∧ Below w2.heap.size w2 w') := fun w2 h2 => by rw [HS.out]; exact ord7_any (HA.out.later h2) (HB.out.later h2)
        have hidx : ∀ w, (Instr.index 104 (.agg #[.func (.func 71) #[] #[], .func (.func 73) #[] #[], .func (.func 75) #[] #[], .func (.func 77) #[] #[], .func (.func 78) #[] #[], .func (.func 79) #[] #[], .func (.func 80) #[] #[], .func (.func 81) #[] #[]]) (.int .i64 6)).run Try.prog w = .ok (.func (.func 80) #[] #[]) w := fun _ => by kernel_rfl
        by_cases hz : S = 0
        · have HZ2 : Hid (∀ j, j < 7 → (cmpsS a b).getD j 0 = 0) := fun j hj => by
            by_cases h : j < 6
            · exact HZ.out j h
            · obtain rfl : j = 6 := by omega
              rw [← HS.out]; exact hz
          subst hz
          have HC2 := HC.out wr hb1
          have HC3 : Hid (Calls Try.prog 80 #[.agg a.cells, .agg b.cells] wr fun r w' => r = .returned (.int .i64 0) ∧ Below wr.heap.size wr w') := HC2
          clear HC HC2 HS
          simp only [EntD.cells] at bxa bxb HC3
          go_wp2_with fail
          refine HC3.out.mono ?_
          rintro e2 w2 ⟨rfl, hb2⟩
          have B2 := hb1.trans (hb2.mono hb1.size)
          have bxa2 := BXA.out.later hb2
          have bxb2 := BXB.out.later hb2
          go_wp2
          go_roundw
          case rel => exact ⟨7, by omega, by go_num, HZ2.out, bxa2, bxb2, B2⟩
          case measure => simp [intOf]
        · have HR : Hid (compareS a b = S) := by unfold Hid compareS; rw [firstNZ_at _ 6 HZ.out (by rw [← HS.out]; exact hz), HS.out]
          have hz1 : (S != 0) = true := by simp; exact hz
          have HC2 := HC.out wr hb1
          have HC3 : Hid (Calls Try.prog 80 #[.agg a.cells, .agg b.cells] wr fun r w' => r = .returned (.int .i64 S) ∧ Below wr.heap.size wr w') := HC2
          clear HC HC2 HS
          simp only [EntD.cells] at bxa bxb HC3
          go_wp2_with fail
          refine HC3.out.mono ?_
          rintro e2 w2 ⟨rfl, hb2⟩
          have B2 := hb1.trans (hb2.mono hb1.size)
          go_wp2
          go_ret
          exact ⟨by rw [HR.out]; rfl, B2⟩
      · have HC : Hid (∀ w2, Below w.heap.size w w2 → Calls Try.prog 81 #[.agg a.cells, .agg b.cells] w2 fun r w' => r = .returned (.int .i64 S) ∧ Below w2.heap.size w2 w') := fun w2 h2 => by rw [HS.out]; exact ord8_any (HA.out.later h2) (HB.out.later h2)
        have hidx : ∀ w, (Instr.index 104 (.agg #[.func (.func 71) #[] #[], .func (.func 73) #[] #[], .func (.func 75) #[] #[], .func (.func 77) #[] #[], .func (.func 78) #[] #[], .func (.func 79) #[] #[], .func (.func 80) #[] #[], .func (.func 81) #[] #[]]) (.int .i64 7)).run Try.prog w = .ok (.func (.func 81) #[] #[]) w := fun _ => by kernel_rfl
        by_cases hz : S = 0
        · have HZ2 : Hid (∀ j, j < 8 → (cmpsS a b).getD j 0 = 0) := fun j hj => by
            by_cases h : j < 7
            · exact HZ.out j h
            · obtain rfl : j = 7 := by omega
              rw [← HS.out]; exact hz
          subst hz
          have HC2 := HC.out wr hb1
          have HC3 : Hid (Calls Try.prog 81 #[.agg a.cells, .agg b.cells] wr fun r w' => r = .returned (.int .i64 0) ∧ Below wr.heap.size wr w') := HC2
          clear HC HC2 HS
          simp only [EntD.cells] at bxa bxb HC3
          go_wp2_with fail
          refine HC3.out.mono ?_
          rintro e2 w2 ⟨rfl, hb2⟩
          have B2 := hb1.trans (hb2.mono hb1.size)
          have bxa2 := BXA.out.later hb2
          have bxb2 := BXB.out.later hb2
          go_wp2
          go_roundw
          case rel => exact ⟨8, by omega, by go_num, HZ2.out, bxa2, bxb2, B2⟩
          case measure => simp [intOf]
        · have HR : Hid (compareS a b = S) := by unfold Hid compareS; rw [firstNZ_at _ 7 HZ.out (by rw [← HS.out]; exact hz), HS.out]
          have hz1 : (S != 0) = true := by simp; exact hz
          have HC2 := HC.out wr hb1
          have HC3 : Hid (Calls Try.prog 81 #[.agg a.cells, .agg b.cells] wr fun r w' => r = .returned (.int .i64 S) ∧ Below wr.heap.size wr w') := HC2
          clear HC HC2 HS
          simp only [EntD.cells] at bxa bxb HC3
          go_wp2_with fail
          refine HC3.out.mono ?_
          rintro e2 w2 ⟨rfl, hb2⟩
          have B2 := hb1.trans (hb2.mono hb1.size)
          go_wp2
          go_ret
          exact ⟨by rw [HR.out]; rfl, B2⟩
    · have hge : (8 : Int) ≤ (t : Int) := by omega
      have HR : Hid (compareS a b = 0) := by unfold Hid compareS; exact firstNZ_none _ (fun j hj => HZ.out j (by have : (cmpsS a b).length = 8 := rfl; omega))
      clear hlt
      go_wp2
      go_ret
      exact ⟨by rw [HR.out]; rfl, hb1⟩

end Go.Proofs.Ythhkpkfpifllkaa

namespace Go.Proofs.Ythhkpkfpifllkaa
open Go.RowKit
set_option linter.unusedVariables false

structure Apart (g : Nat) (w w' : World) : Prop where
  os : w'.os = w.os
  tape : w'.tape = w.tape
  output : w'.output = w.output
  size : w.heap.size ≤ w'.heap.size
  block : ∀ k, k < w.heap.size → k ≠ g → w'.heap[k]? = w.heap[k]?
theorem Apart.refl (g : Nat) (w : World) : Apart g w w := ⟨rfl, rfl, rfl, Nat.le_refl _, fun _ _ _ => rfl⟩
theorem Apart.trans {g : Nat} {a b c : World} (h : Apart g a b) (k : Apart g b c) : Apart g a c :=
  ⟨k.os.trans h.os, k.tape.trans h.tape, k.output.trans h.output, Nat.le_trans h.size k.size, fun i hi hg => (k.block i (Nat.lt_of_lt_of_le hi h.size) hg).trans (h.block i hi hg)⟩
theorem Apart.of {g : Nat} {w w' : World} (h : Below w.heap.size w w') : Apart g w w' := ⟨h.os, h.tape, h.output, h.size, fun k hk _ => h.block k hk⟩
theorem Apart.below {g B : Nat} {w w' : World} (h : Apart g w w') (hg : B ≤ g) (hB : B ≤ w.heap.size) : Below B w w' :=
  ⟨h.os, h.tape, h.output, h.size, fun k hk => h.block k (by omega) (by omega)⟩

def rcells (v : Value) (k : Int) (bad : Bool) : Array Value := #[v, .int .i64 k, .bool bad]
theorem apart_set (w : World) (g i : Nat) (x : Value) : Apart g w (w.setCell ⟨g, i, none⟩ x) := by
  refine ⟨rfl, rfl, rfl, by simp [World.setCell], fun k hk hg => ?_⟩
  simp [World.setCell, Array.getElem?_modify, Ne.symm hg]
def oneR (bs : List Nat) (k : Nat) : Nat × Nat × Bool := if k = bs.length then (0, k, true) else (bs.getD k 0, k + 1, false)
theorem oneR_end (bs : List Nat) : oneR bs bs.length = (0, bs.length, true) := by simp [oneR]
theorem oneR_in (bs : List Nat) (k : Nat) (h : k < bs.length) : oneR bs k = (bs.getD k 0, k + 1, false) := by simp [oneR]; omega
end Go.Proofs.Ythhkpkfpifllkaa

namespace Go.Proofs.Ythhkpkfpifllkaa
open Go.RowKit
set_option linter.unusedVariables false
theorem EBox.fz {w : World} {g : Nat} {e : EntD} (h : EBox w g e) (i : Nat) : w.frozen? ⟨g, i, none⟩ = false := by unfold EBox at h; simp [World.frozen?, h]
theorem EBox.apart {w w' : World} {g ge : Nat} {e : EntD} (h : EBox w ge e) (hw : Apart g w w') (hne : ge ≠ g) : EBox w' ge e := by
  unfold EBox at *
  rw [hw.block ge (Array.getElem?_eq_some_iff.1 h).1 hne]; exact h
theorem EBox.set0 {w : World} {g : Nat} {e : EntD} (h : EBox w g e) (x : Value) (l : List Nat) : EBox (w.setCell ⟨g, 0, none⟩ x) g { e with vr := x, row := l } := by
  unfold EBox EntD.cells at *; simp [World.setCell, Array.getElem?_modify, h]
theorem EBox.set1 {w : World} {g : Nat} {e : EntD} (h : EBox w g e) (x : Int) : EBox (w.setCell ⟨g, 1, none⟩ (.int .i64 x)) g { e with fam := x } := by
  unfold EBox EntD.cells at *; simp [World.setCell, Array.getElem?_modify, h]
theorem EBox.set2 {w : World} {g : Nat} {e : EntD} (h : EBox w g e) (x : Value) (l : List Nat) : EBox (w.setCell ⟨g, 2, none⟩ x) g { e with vq := x, qual := l } := by
  unfold EBox EntD.cells at *; simp [World.setCell, Array.getElem?_modify, h]
theorem EBox.set3 {w : World} {g : Nat} {e : EntD} (h : EBox w g e) (x : Int) : EBox (w.setCell ⟨g, 3, none⟩ (.int .i64 x)) g { e with ts := x } := by
  unfold EBox EntD.cells at *; simp [World.setCell, Array.getElem?_modify, h]
theorem EBox.set4 {w : World} {g : Nat} {e : EntD} (h : EBox w g e) (x : Int) : EBox (w.setCell ⟨g, 4, none⟩ (.int .i64 x)) g { e with seq := x } := by
  unfold EBox EntD.cells at *; simp [World.setCell, Array.getElem?_modify, h]
theorem EBox.set5 {w : World} {g : Nat} {e : EntD} (h : EBox w g e) (x : Int) : EBox (w.setCell ⟨g, 5, none⟩ (.int .i64 x)) g { e with kind := x } := by
  unfold EBox EntD.cells at *; simp [World.setCell, Array.getElem?_modify, h]
theorem EBox.set6 {w : World} {g : Nat} {e : EntD} (h : EBox w g e) (x : Value) (l : List Nat) : EBox (w.setCell ⟨g, 6, none⟩ x) g { e with vv := x, val := l } := by
  unfold EBox EntD.cells at *; simp [World.setCell, Array.getElem?_modify, h]
def filled (w : World) (g : Nat) (e : EntD) : World :=
  ((((((w.setCell ⟨g, 0, none⟩ e.vr).setCell ⟨g, 1, none⟩ (.int .i64 e.fam)).setCell ⟨g, 2, none⟩ e.vq).setCell ⟨g, 3, none⟩ (.int .i64 e.ts)).setCell ⟨g, 4, none⟩ (.int .i64 e.seq)).setCell ⟨g, 5, none⟩ (.int .i64 e.kind)).setCell ⟨g, 6, none⟩ e.vv
theorem filled_box {w : World} {g : Nat} {d : EntD} (h : EBox w g d) (e : EntD) : EBox (filled w g e) g e :=
  (((((((h.set0 e.vr e.row).set1 e.fam).set2 e.vq e.qual).set3 e.ts).set4 e.seq).set5 e.kind).set6 e.vv e.val)
theorem filled_apart (w : World) (g : Nat) (e : EntD) : Apart g w (filled w g e) :=
  ((((((apart_set _ _ _ _).trans (apart_set _ _ _ _)).trans (apart_set _ _ _ _)).trans (apart_set _ _ _ _)).trans (apart_set _ _ _ _)).trans (apart_set _ _ _ _)).trans (apart_set _ _ _ _)
theorem Own.apartE {w w' : World} {g B m0 : Nat} {v : Value} {e : EntD} {xs : List Nat} (h : Own w B v m0 xs) (hr : EBox w g e) (hw : Apart g w w') : Own w' B v m0 xs := by
  refine ⟨h.1, h.2.1, ?_⟩
  rcases h.2.2 with h2 | ⟨g2, cap, cur, h3, h4, h5, h6⟩
  · exact .inl h2
  · refine .inr ⟨g2, cap, cur, h3, h4, ?_, h6⟩
    rw [hw.block g2 (Array.getElem?_eq_some_iff.1 h5).1 ?_]
    · exact h5
    · rintro rfl
      unfold EBox at hr
      rw [h5] at hr
      have := Option.some.inj hr
      injection this with _ e
      exact absurd e (by decide)

theorem Apart.out {g ge : Nat} {w wx wy : World} (h : Apart g w wx) (k : Apart ge wx wy) (hg : w.heap.size ≤ ge) : Apart g w wy :=
  ⟨k.os.trans h.os, k.tape.trans h.tape, k.output.trans h.output, Nat.le_trans h.size k.size, fun i hi hn => (k.block i (Nat.lt_of_lt_of_le hi h.size) (by omega)).trans (h.block i hi hn)⟩
theorem rord_le (l acc : List Nat) (i : Nat) : (rord l acc i).2.1 ≤ i + l.length := by
  fun_induction rord l acc i <;> simp_all <;> omega
theorem ordR_le (bs : List Nat) (k : Nat) (h : k ≤ bs.length) : (ordR bs k).2.1 ≤ bs.length := by
  have := rord_le (bs.drop k) [] 0
  simp only [List.length_drop] at this
  simp only [ordR]
  split <;> omega
theorem fallR_le (bs : List Nat) (k : Nat) (h : k ≤ bs.length) : (fallR bs k).2.1 ≤ bs.length := by
  unfold fallR riseR
  split <;> simp
  split <;> simp
  omega
theorem oneR_le (bs : List Nat) (k : Nat) (h : k ≤ bs.length) : (oneR bs k).2.1 ≤ bs.length := by
  unfold oneR
  split <;> simp <;> omega
theorem oneR_lt (bs : List Nat) (k : Nat) (h : Bys bs) : (oneR bs k).1 < 256 := by
  unfold oneR
  split
  · simp
  · exact h.get k

theorem own_len {w : World} {B m : Nat} {v : Value} {xs : List Nat} (h : Own w B v m xs) : Own w B v xs.length xs := by
  have e := h.1
  subst e
  exact h

end Go.Proofs.Ythhkpkfpifllkaa

namespace Go.Proofs.Ythhkpkfpifllkaa
open Go.RowKit
set_option linter.unusedVariables false

theorem own_nil (w : World) (B : Nat) : Own w B (.slice none 0 0) ([] : List Nat).length [] := ⟨rfl, rfl, .inl ⟨rfl, rfl⟩⟩

end Go.Proofs.Ythhkpkfpifllkaa

namespace Go.Proofs.Ythhkpkfpifllkaa
open Go.RowKit
set_option linter.unusedVariables false

theorem uintF_len (f v : Nat) : 1 ≤ (uintF f v).length ∧ (uintF f v).length ≤ f + 1 := by
  induction f generalizing v with
  | zero => simp [uintF]
  | succ f ih =>
    unfold uintF
    split
    · have := ih (v / 128); simp; omega
    · simp
theorem uintL_len (v : Nat) : 1 ≤ (uintL v).length ∧ (uintL v).length ≤ 10 := uintF_len 9 v
theorem uintF_bys (f v : Nat) (h : v < 128 ^ (f + 1)) : Bys (uintF f v) := by
  induction f generalizing v with
  | zero => intro x hx; simp [uintF] at hx; simp at h; omega
  | succ f ih =>
    unfold uintF
    split
    · intro x hx
      simp only [List.mem_cons] at hx
      rcases hx with rfl | hx
      · omega
      · exact ih (v / 128) (by rw [Nat.pow_succ] at h; exact Nat.div_lt_of_lt_mul (by rw [Nat.mul_comm]; exact h)) x hx
    · intro x hx; simp at hx; omega
theorem uintL_bys (v : Nat) (h : v < 18446744073709551616) : Bys (uintL v) := uintF_bys 9 v (Nat.lt_of_lt_of_le h (by decide))

def bytesL (bs : List Nat) : List Nat := uintL bs.length ++ bs

theorem own_le10 {w : World} {B : Nat} {v : Value} {m n k : Nat} (h : Own w B v m ([] ++ uintL k)) (hl : n ≤ 140737488355312) : m + n ≤ 140737488355328 := by
  have h1 := h.1
  have h2 := uintL_len k
  rw [List.nil_append] at h1
  omega

theorem ruint_ok : ∀ (f : Nat) (l : List Nat) (i v V c : Nat), ruint f l i v = (V, c, 0) → i + f = 9 → v < 128 ^ i → i < c ∧ c ≤ i + l.length ∧ V < 18446744073709551616 := by
  intro f
  induction f with
  | zero =>
    intro l i v V c h hi hv
    cases l with
    | nil => simp [ruint] at h
    | cons x r =>
      unfold ruint at h
      split at h
      · simp at h
      · split at h
        · simp at h
        · split at h
          · simp at h
          · rename_i h1 h2 h3
            simp only [Prod.mk.injEq, and_true] at h
            obtain ⟨rfl, rfl⟩ := h
            refine ⟨by omega, by simp, ?_⟩
            have hi9 : i = 9 := by omega
            subst hi9
            have hx : x ≤ 1 := by
              by_cases hx : 1 < x
              · exact absurd ⟨rfl, hx⟩ h1
              · omega
            have : x % 128 * 128 ^ 9 ≤ 1 * 128 ^ 9 := Nat.mul_le_mul_right _ (by omega)
            have e : (128 : Nat) ^ 9 = 9223372036854775808 := by decide
            rw [e] at this hv ⊢
            omega
  | succ f ih =>
    intro l i v V c h hi hv
    cases l with
    | nil => simp [ruint] at h
    | cons x r =>
      unfold ruint at h
      split at h
      · simp at h
      · split at h
        · have := ih r (i + 1) _ V c h (by omega) (next_lt v x i hv)
          simp only [List.length_cons]
          omega
        · split at h
          · simp at h
          · rename_i h1 h2 h3
            simp only [Prod.mk.injEq, and_true] at h
            obtain ⟨rfl, rfl⟩ := h
            refine ⟨by omega, by simp, ?_⟩
            have h8 : 128 ^ (i + 1) ≤ 128 ^ 9 := Nat.pow_le_pow_right (by omega) (by omega)
            have e : (128 : Nat) ^ 9 = 9223372036854775808 := by decide
            have := next_lt v x i hv
            rw [e] at h8
            omega
theorem uintR_ok {bs : List Nat} {k V P : Nat} (h : uintR bs k = (V, P, 0)) (hk : k ≤ bs.length) : k < P ∧ P ≤ bs.length ∧ V < 18446744073709551616 := by
  unfold uintR at h
  simp only [Prod.mk.injEq] at h
  obtain ⟨h1, h2, h3⟩ := h
  rw [if_pos h3] at h2
  have := ruint_ok 9 (bs.drop k) 0 0 V (ruint 9 (bs.drop k) 0 0).2.1 (Prod.ext h1 (Prod.ext rfl h3)) rfl (by simp)
  rw [List.length_drop] at this
  omega
theorem ruint_err : ∀ (f : Nat) (l : List Nat) (i v : Nat), (ruint f l i v).2.2 ≠ 0 → (ruint f l i v).1 = 0 := by
  intro f
  induction f with
  | zero =>
    intro l i v h
    cases l with
    | nil => rfl
    | cons x r =>
      unfold ruint at h ⊢
      split
      · rfl
      · split
        · rfl
        · split
          · rfl
          · rename_i h1 h2 h3; simp [h1, h2, h3] at h
  | succ f ih =>
    intro l i v h
    cases l with
    | nil => rfl
    | cons x r =>
      unfold ruint at h ⊢
      split
      · rfl
      · split
        · rename_i h1 h2; rw [if_neg h1, if_pos h2] at h; exact ih _ _ _ h
        · split
          · rfl
          · rename_i h1 h2 h3; simp [h1, h2, h3] at h
theorem ruint_e : ∀ (f : Nat) (l : List Nat) (i v : Nat), (ruint f l i v).2.2 ≤ 13 := by
  intro f
  induction f with
  | zero =>
    intro l i v
    cases l with
    | nil => simp [ruint]
    | cons x r =>
      unfold ruint
      split
      · simp
      · split
        · simp
        · split <;> simp
  | succ f ih =>
    intro l i v
    cases l with
    | nil => simp [ruint]
    | cons x r =>
      unfold ruint
      split
      · simp
      · split
        · exact ih _ _ _
        · split <;> simp

def bytesR (bs : List Nat) (k most : Nat) : List Nat × Nat × Nat :=
  if (uintR bs k).2.2 ≠ 0 then ([], 0, (uintR bs k).2.2)
  else if most < (uintR bs k).1 then ([], 0, 13)
  else if bs.length < (uintR bs k).2.1 + (uintR bs k).1 then ([], 0, 10)
  else ((bs.drop (uintR bs k).2.1).take (uintR bs k).1, (uintR bs k).2.1 + (uintR bs k).1, 0)

end Go.Proofs.Ythhkpkfpifllkaa

namespace Go.Proofs.Ythhkpkfpifllkaa
open Go.RowKit
set_option linter.unusedVariables false

theorem heap_new (w : World) (o : Obj) : (w.alloc o).heap[w.heap.size]? = some o := by
  show (w.heap.push o)[w.heap.size]? = some o
  simp

theorem own_one (w : World) (B x : Nat) (hB : B ≤ w.heap.size) : Own (w.alloc (.cells #[.int .u8 (x : Int)] 5)) B (.slice (some ⟨w.heap.size, 0, none⟩) 1 1) 1 [x] := by
  refine ⟨rfl, rfl, .inr ⟨w.heap.size, 1, #[.int .u8 (x : Int)], rfl, hB, heap_new w _, Nat.le_refl _, by decide, rfl, rfl⟩⟩

end Go.Proofs.Ythhkpkfpifllkaa

namespace Go.Proofs.Ythhkpkfpifllkaa
open Go.RowKit
set_option linter.unusedVariables false

def plainD (vr vq vv : Value) : EntD := ⟨vr, 1, vq, 5, 32, 1, vv, [114], [113], [118]⟩
def zeroD : EntD := ⟨.slice none 0 0, 0, .slice none 0 0, 0, 0, 0, .slice none 0 0, [], [], []⟩
theorem rd_one {w : World} {g x : Nat} (h : w.cell? ⟨g, 0, none⟩ = some (.int .u8 (x : Int))) (hx : x < 256) : Rd w (.slice (some ⟨g, 0, none⟩) 1 1) [x] :=
  ⟨fun y hy => by simp at hy; omega, _, 1, rfl, Nat.le_refl _, by decide, by simp, .inr ⟨g, 0, rfl⟩, .inr ⟨g, 0, rfl, fun i hi => by
    obtain rfl : i = 0 := by simp at hi; omega
    simpa using h⟩⟩
theorem Apart.cell {g : Nat} {w w' : World} (h : Apart g w w') {k i : Nat} {x : Value} (hx : w.cell? ⟨k, i, none⟩ = some x) (hk : k ≠ g) : w'.cell? ⟨k, i, none⟩ = some x := by
  have hl : k < w.heap.size := World.block_lt_of_cell? w _ hx
  have e := h.block k hl hk
  unfold World.cell? at hx ⊢
  rw [e]
  exact hx


theorem three (w : World) (E : EntD) : ∃ w4, w4 = (((w.alloc (.cells E.cells 45)).alloc (.cells #[.int .u8 114] 5 (1, 2))).alloc (.cells #[.int .u8 113] 5 (1, 2))).alloc (.cells #[.int .u8 118] 5 (1, 2)) ∧ EBox w4 w.heap.size E ∧
    w4.cell? ⟨w.heap.size + 1, 0, none⟩ = some (.int .u8 114) ∧ w4.cell? ⟨w.heap.size + 2, 0, none⟩ = some (.int .u8 113) ∧ w4.cell? ⟨w.heap.size + 3, 0, none⟩ = some (.int .u8 118) ∧ Below w.heap.size w w4 := by
  have A1 := (Below.refl w.heap.size w).alloc (Nat.le_refl _) (.cells E.cells 45)
  have b1 := EBox.new w E
  have s1 : (w.alloc (.cells E.cells 45)).heap.size = w.heap.size + 1 := by simp
  obtain ⟨w1, hw1⟩ : ∃ w1, w1 = w.alloc (.cells E.cells 45) := ⟨_, rfl⟩
  rw [← hw1] at A1 b1 s1
  have A2 := (Below.refl w1.heap.size w1).alloc (Nat.le_refl _) (.cells #[.int .u8 114] 5 (1, 2))
  have s2 : (w1.alloc (.cells #[.int .u8 114] 5 (1, 2))).heap.size = w.heap.size + 2 := by simp [s1]
  have c2 : (w1.alloc (.cells #[.int .u8 114] 5 (1, 2))).cell? ⟨w.heap.size + 1, 0, none⟩ = some (.int .u8 114) := by rw [Joins.cell_alloc_mark_at _ _ _ _ _ _ s1.symm]; rfl
  obtain ⟨w2, hw2⟩ : ∃ w2, w2 = w1.alloc (.cells #[.int .u8 114] 5 (1, 2)) := ⟨_, rfl⟩
  rw [← hw2] at A2 s2 c2
  have A3 := (Below.refl w2.heap.size w2).alloc (Nat.le_refl _) (.cells #[.int .u8 113] 5 (1, 2))
  have s3 : (w2.alloc (.cells #[.int .u8 113] 5 (1, 2))).heap.size = w.heap.size + 3 := by simp [s2]
  have c3 : (w2.alloc (.cells #[.int .u8 113] 5 (1, 2))).cell? ⟨w.heap.size + 2, 0, none⟩ = some (.int .u8 113) := by rw [Joins.cell_alloc_mark_at _ _ _ _ _ _ s2.symm]; rfl
  obtain ⟨w3, hw3⟩ : ∃ w3, w3 = w2.alloc (.cells #[.int .u8 113] 5 (1, 2)) := ⟨_, rfl⟩
  rw [← hw3] at A3 s3 c3
  have A4 := (Below.refl w3.heap.size w3).alloc (Nat.le_refl _) (.cells #[.int .u8 118] 5 (1, 2))
  have c4 : (w3.alloc (.cells #[.int .u8 118] 5 (1, 2))).cell? ⟨w.heap.size + 3, 0, none⟩ = some (.int .u8 118) := by rw [Joins.cell_alloc_mark_at _ _ _ _ _ _ s3.symm]; rfl
  obtain ⟨w4, hw4⟩ : ∃ w4, w4 = w3.alloc (.cells #[.int .u8 118] 5 (1, 2)) := ⟨_, rfl⟩
  rw [← hw4] at A4 c4
  refine ⟨w4, by rw [hw4, hw3, hw2, hw1], ((b1.later A2).later A3).later A4, ?_, ?_, c4, ((A1.trans (A2.mono A1.size)).trans (A3.mono (by omega))).trans (A4.mono (by omega))⟩
  · rw [A4.cell (p := ⟨w.heap.size + 1, 0, none⟩) (by simp; omega), A3.cell (p := ⟨w.heap.size + 1, 0, none⟩) (by simp; omega)]; exact c2
  · rw [A4.cell (p := ⟨w.heap.size + 2, 0, none⟩) (by simp; omega)]; exact c3

def plainK : List Nat := [114, 0, 1, 1, 1, 113, 0, 1, 1, 127, 255, 255, 255, 255, 255, 255, 250, 127, 255, 255, 255, 255, 255, 255, 223, 1]
theorem plainK_bys : Bys plainK := by
  have h : ∀ x ∈ plainK, x < 256 := by decide
  exact h
theorem be8_a : be8 (9223372036854775807 - 5) = [127, 255, 255, 255, 255, 255, 255, 250] := by decide +kernel
theorem be8_b : be8 (9223372036854775807 - 32) = [127, 255, 255, 255, 255, 255, 255, 223] := by decide +kernel
theorem keyL_plain (vr vq vv : Value) : keyL (plainD vr vq vv) = plainK := by
  have h1 : ordL [114] = [114, 0, 1] := by simp [ordL, escL]
  have h2 : ordL [113] = [113, 0, 1] := by simp [ordL, escL]
  show ((((ordL [114] ++ [1, mark 1 5]) ++ (if (1 : Int) = 5 then [] else ordL [113] ++ [mark 1 4])) ++ be8 (9223372036854775807 - 5)) ++ be8 (9223372036854775807 - 32)) ++ [1] = plainK
  rw [h1, h2, be8_a, be8_b]
  simp [mark, plainK]

end Go.Proofs.Ythhkpkfpifllkaa

namespace Go.Proofs.Ythhkpkfpifllkaa
open Go.RowKit
set_option linter.unusedVariables false
theorem wpList_append_gr {w : World} {ops : Array Oper} {rest : List Oper} {o : Oper} {a : Act} {Q : Exit → Act → World → Prop} (hgd : o.guard = none) (s x : Operand)
    (ho : o.op = .call { callee := .builtin .append, args := #[s, x], argTypes := #[43, 43] })
    (B : Nat) (a0 : Option Addr) (m0 c0 : Nat) (acc : List Nat) (hs : a.eval s = .slice a0 m0 c0) (hown : Own w B (.slice a0 m0 c0) m0 acc)
    (ao : Option Addr) (m c : Nat) (bs : List Nat) (hx : a.eval x = .slice ao m c) (hrd : Rd w (.slice ao m c) bs)
    (hbytes : m0 + m ≤ 140737488355328) (hB : B ≤ w.heap.size)
    (h : ∀ a' m' c' w', Own w' B (.slice a' m' c') m' (acc ++ bs) → Below B w w' → w.grownBy w' (Value.slice a0 m0 c0).ownBlock → wpList Try.prog ops Q rest (a.put o.dst (.slice a' m' c')) w') : wpList Try.prog ops Q (o :: rest) a w := by
  obtain ⟨i0, hi, hz0, hz1, hz2⟩ := info_parts info_byte
  obtain ⟨hby, a1, c1, h2, hle, hm, hl48, hnone, hat⟩ := hrd
  simp only [Value.slice.injEq] at h2
  obtain ⟨rfl, rfl, rfl⟩ := h2
  cases ao with
  | none =>
    have hb0 : bs = [] ∧ c = 0 := by
      rcases hnone with h | ⟨b, off, h⟩
      · exact ⟨List.eq_nil_of_length_eq_zero (by omega), h⟩
      · cases h
    obtain ⟨rfl, rfl⟩ := hb0
    refine wpList_append_own_none hgd s x 43 ho B 5 i0 1 und_bytes hi _ _ _ hs hown.2 (by simpa using hx) ?_
    exact h _ _ _ _ (by simpa using hown) (Below.refl _ _) (World.grownBy.refl _ _)
  | some ad =>
    refine wpList_append_own _ hgd s x 43 ho B 5 i0 (.int .u8 0) 1 1 und_bytes hi hz0 hz1 hz2 rfl (by decide) _ m0 (bv acc) hs hown.2 ad bs.length c (bv bs) hx (by simp [bv]) hat.add (bv_oneCell bs) (by unfold maxLen; omega) (by omega) hB ?_
    intro v' w' h1 h2 _
    obtain ⟨a', c', rfl⟩ := own_form h1
    refine h a' _ c' w' ⟨by rw [hown.1]; simp, by simpa [bv] using h1⟩ ((Below.refl B w).grown h2 hB (fun k hk => (hown.2.lt k hk).1)) h2


theorem Own.grown {w w' : World} {B m : Nat} {v : Value} {o : Option Nat} {xs : List Nat} (h : Own w B v m xs) (k : w.grownBy w' o) (hne : ∀ g, o = some g → g < B) : Own w' B v m xs := by
  refine ⟨h.1, h.2.1, ?_⟩
  rcases h.2.2 with h2 | ⟨g, cap, cur, h3, h4, h5, h6⟩
  · exact .inl h2
  · refine .inr ⟨g, cap, cur, h3, h4, ?_, h6⟩
    rw [k.block g (Array.getElem?_eq_some_iff.1 h5).1 ?_]
    · exact h5
    · intro e
      have := hne g e.symm
      omega

end Go.Proofs.Ythhkpkfpifllkaa

namespace Go.Proofs.Ythhkpkfpifllkaa
open Go.RowKit
set_option linter.unusedVariables false

theorem EBox.cells7 {w : World} {g : Nat} {e : EntD} (h : EBox w g e) : w.cell? ⟨g, 0, none⟩ = some e.vr ∧ w.cell? ⟨g, 1, none⟩ = some (.int .i64 e.fam) ∧ w.cell? ⟨g, 2, none⟩ = some e.vq ∧ w.cell? ⟨g, 3, none⟩ = some (.int .i64 e.ts) ∧ w.cell? ⟨g, 4, none⟩ = some (.int .i64 e.seq) ∧ w.cell? ⟨g, 5, none⟩ = some (.int .i64 e.kind) ∧ w.cell? ⟨g, 6, none⟩ = some e.vv := ⟨h.vr, h.fam, h.vq, h.ts, h.seq, h.kind, h.vv⟩
theorem check_plainD (vr vq vv : Value) : checkS (plainD vr vq vv) = 0 := by simp [checkS, plainD]
def badD (vr vq vv : Value) (seq : Int) : EntD := ⟨vr, 1, vq, 0, seq, 1, vv, [114], [113], [118]⟩
theorem check_badD (vr vq vv : Value) (seq : Int) : checkS (badD vr vq vv seq) = 23 := by simp [checkS, badD]

theorem cmp_plain (a b c x y z : Value) : compareS (plainD a b c) (badD x y z 32) = -1 := by simp [compareS, cmpsS, firstNZ, plainD, badD, ordC_self, cmpI, aheadS]
end Go.Proofs.Ythhkpkfpifllkaa

namespace Go.Proofs.Ythhkpkfpifllkaa
open Go.RowKit
set_option linter.unusedVariables false

def Dif (xs ys : List Nat) (c : Int) : Prop :=
  (c = 0 ∧ xs = ys) ∨ (c = -1 ∧ ∃ p x y r s, xs = p ++ x :: r ∧ ys = p ++ y :: s ∧ x < y) ∨ (c = 1 ∧ ∃ p x y r s, xs = p ++ x :: r ∧ ys = p ++ y :: s ∧ y < x)
theorem Dif.more {xs ys : List Nat} {c : Int} (h : Dif xs ys c) (hc : c ≠ 0) (u v : List Nat) : Dif (xs ++ u) (ys ++ v) c := by
  rcases h with ⟨h, _⟩ | ⟨h, p, x, y, r, s, rfl, rfl, hx⟩ | ⟨h, p, x, y, r, s, rfl, rfl, hx⟩
  · exact absurd h hc
  · exact .inr (.inl ⟨h, p, x, y, r ++ u, s ++ v, by simp, by simp, hx⟩)
  · exact .inr (.inr ⟨h, p, x, y, r ++ u, s ++ v, by simp, by simp, hx⟩)
theorem Dif.ahead {u v : List Nat} {c : Int} (h : Dif u v c) (xs : List Nat) : Dif (xs ++ u) (xs ++ v) c := by
  rcases h with ⟨h, rfl⟩ | ⟨h, p, x, y, r, s, rfl, rfl, hx⟩ | ⟨h, p, x, y, r, s, rfl, rfl, hx⟩
  · exact .inl ⟨h, rfl⟩
  · exact .inr (.inl ⟨h, xs ++ p, x, y, r, s, by simp, by simp, hx⟩)
  · exact .inr (.inr ⟨h, xs ++ p, x, y, r, s, by simp, by simp, hx⟩)
theorem Dif.cons {xs ys u v : List Nat} {c : Int} {l : List Int} (h : Dif xs ys c) (k : c = 0 → Dif u v (firstNZ l)) : Dif (xs ++ u) (ys ++ v) (firstNZ (c :: l)) := by
  unfold firstNZ
  by_cases hc : c = 0
  · rw [if_pos hc]
    rcases h with ⟨_, rfl⟩ | ⟨h, _⟩ | ⟨h, _⟩
    · exact (k hc).ahead xs
    · omega
    · omega
  · rw [if_neg hc]
    exact h.more hc u v
theorem dif_ordC : ∀ (xs ys : List Nat), (¬ xs <+: ys ∧ ¬ ys <+: xs) ∨ xs = ys → Dif xs ys (ordC xs ys)
  | [], ys, h => by
    rcases h with h | rfl
    · exact absurd (List.nil_prefix) h.1
    · exact .inl ⟨ordC_self _, rfl⟩
  | x :: xs, [], h => by
    rcases h with h | h
    · exact absurd (List.nil_prefix) h.2
    · cases h
  | x :: xs, y :: ys, h => by
    unfold ordC
    by_cases h1 : x < y
    · rw [if_pos h1]
      exact .inr (.inl ⟨rfl, [], x, y, xs, ys, rfl, rfl, h1⟩)
    · rw [if_neg h1]
      by_cases h2 : y < x
      · rw [if_pos h2]
        exact .inr (.inr ⟨rfl, [], x, y, xs, ys, rfl, rfl, h2⟩)
      · rw [if_neg h2]
        obtain rfl : x = y := by omega
        have := dif_ordC xs ys (by
          rcases h with ⟨h3, h4⟩ | h
          · exact .inl ⟨fun k => h3 (List.cons_prefix_cons.2 ⟨rfl, k⟩), fun k => h4 (List.cons_prefix_cons.2 ⟨rfl, k⟩)⟩
          · exact .inr (by simpa using h))
        exact this.ahead [x]
theorem dif_len {xs ys : List Nat} (h : xs.length = ys.length) : Dif xs ys (ordC xs ys) := by
  refine dif_ordC xs ys ?_
  by_cases e : xs = ys
  · exact .inr e
  · exact .inl ⟨fun k => e (k.eq_of_length h), fun k => e (k.eq_of_length h.symm).symm⟩
theorem dif_ordL (a b : List Nat) : Dif (ordL a) (ordL b) (ordC a b) := by
  rw [← ordC_ordL0]
  refine dif_ordC _ _ ?_
  by_cases e : ordC a b = 0
  · exact .inr (by rw [ordC_eq a b e])
  · have e2 : ordC b a ≠ 0 := by rw [ordC_swap]; omega
    exact .inl ⟨fun k => ordL_free a b e ⟨k.length_le, (List.prefix_iff_eq_take.1 k)⟩, fun k => ordL_free b a e2 ⟨k.length_le, (List.prefix_iff_eq_take.1 k)⟩⟩
theorem dif_one (m n : Nat) : Dif [m] [n] (cmpI (m : Int) (n : Int)) := by
  have e : ordC [m] [n] = cmpI (m : Int) (n : Int) := by
    simp only [ordC, cmpI]
    repeat' split
    all_goals omega
  rw [← e]
  exact dif_len rfl
theorem dif_fall (m n : Nat) (hm : m < 9223372036854775808) (hn : n < 9223372036854775808) : Dif (be8 (9223372036854775807 - m)) (be8 (9223372036854775807 - n)) (cmpI (n : Int) (m : Int)) := by
  have e : ordC (be8 (9223372036854775807 - m)) (be8 (9223372036854775807 - n)) = cmpI (n : Int) (m : Int) := by
    rw [ordC_be8 _ _ (by omega) (by omega)]
    simp only [cmpN, cmpI]
    repeat' split
    all_goals omega
  rw [← e]
  exact dif_len rfl

theorem keyL_parts (e : EntD) : keyL e = ordL e.row ++ ([e.fam.toNat] ++ ([mark e.kind 5] ++ ((if e.kind = 5 then [] else ordL e.qual ++ [mark e.kind 4]) ++ (be8 (9223372036854775807 - e.ts.toNat) ++ (be8 (9223372036854775807 - e.seq.toNat) ++ ([e.kind.toNat] ++ [])))))) := by
  simp [keyL]

theorem key_dif {a b : EntD} (ha : checkS a = 0) (hb : checkS b = 0) : Dif (keyL a) (keyL b) (compareS a b) := by
  obtain ⟨_, fa, _, qa, ta, sa, ka, _⟩ := check_facts ha
  obtain ⟨_, fb, _, qb, tb, sb, kb, _⟩ := check_facts hb
  rw [keyL_parts, keyL_parts]
  unfold compareS cmpsS
  have tail : Dif (be8 (9223372036854775807 - a.ts.toNat) ++ (be8 (9223372036854775807 - a.seq.toNat) ++ ([a.kind.toNat] ++ []))) (be8 (9223372036854775807 - b.ts.toNat) ++ (be8 (9223372036854775807 - b.seq.toNat) ++ ([b.kind.toNat] ++ []))) (firstNZ [cmpI b.ts a.ts, cmpI b.seq a.seq, cmpI a.kind b.kind]) := by
    have d1 := dif_fall a.ts.toNat b.ts.toNat (by omega) (by omega)
    have d2 := dif_fall a.seq.toNat b.seq.toNat (by omega) (by omega)
    have d3 := dif_one a.kind.toNat b.kind.toNat
    rw [Int.toNat_of_nonneg (by omega), Int.toNat_of_nonneg (by omega)] at d1 d2 d3
    exact d1.cons fun _ => d2.cons fun _ => d3.cons fun _ => .inl ⟨rfl, rfl⟩
  have dm := dif_one a.fam.toNat b.fam.toNat
  rw [Int.toNat_of_nonneg (by omega), Int.toNat_of_nonneg (by omega)] at dm
  refine (dif_ordL a.row b.row).cons fun _ => dm.cons fun _ => (dif_one _ _).cons fun h5 => ?_
  by_cases k5 : a.kind = 5
  · by_cases l5 : b.kind = 5
    · rw [if_pos k5, if_pos l5, qa k5, qb l5]
      have e : aheadS a b 4 = 0 := by simp [aheadS, mark, k5, l5, cmpI]
      rw [e]
      simpa [firstNZ, ordC] using tail
    · exfalso
      simp [mark, k5, l5, cmpI] at h5
  · by_cases l5 : b.kind = 5
    · exfalso
      simp [mark, k5, l5, cmpI] at h5
    · rw [if_neg k5, if_neg l5, List.append_assoc, List.append_assoc]
      exact (dif_ordL a.qual b.qual).cons fun _ => (dif_one _ _).cons fun _ => tail

theorem dif_end {xs ys : List Nat} {c : Int} {t : Nat} (h : Dif xs ys c) (ht : xs.take t = ys.take t) (h1 : t ≤ xs.length) (h2 : t ≤ ys.length) (h3 : t = xs.length ∨ t = ys.length) : c = 0 ∧ xs.length = ys.length := by
  have key : ∀ (p r s : List Nat) (x y : Nat), xs = p ++ x :: r → ys = p ++ y :: s → x ≠ y → False := by
    intro p r s x y e1 e2 hne
    have hp : p.length < t := by
      rcases h3 with h | h
      · rw [h, e1]; simp
      · rw [h, e2]; simp
    have e3 : (xs.take t)[p.length]? = (ys.take t)[p.length]? := by rw [ht]
    rw [List.getElem?_take_of_lt hp, List.getElem?_take_of_lt hp, e1, e2] at e3
    simp at e3
    exact hne e3
  rcases h with ⟨h, rfl⟩ | ⟨h, p, x, y, r, s, e1, e2, hx⟩ | ⟨h, p, x, y, r, s, e1, e2, hx⟩
  · exact ⟨h, rfl⟩
  · exact (key p r s x y e1 e2 (by omega)).elim
  · exact (key p r s x y e1 e2 (by omega)).elim
theorem dif_at {xs ys : List Nat} {c : Int} {t : Nat} (h : Dif xs ys c) (ht : xs.take t = ys.take t) (h1 : t < xs.length) (h2 : t < ys.length) (hne : xs.getD t 0 ≠ ys.getD t 0) : (c = -1 ∧ xs.getD t 0 < ys.getD t 0) ∨ (c = 1 ∧ ys.getD t 0 < xs.getD t 0) := by
  have key : ∀ (p r s : List Nat) (x y : Nat), xs = p ++ x :: r → ys = p ++ y :: s → x ≠ y → xs.getD t 0 = x ∧ ys.getD t 0 = y := by
    intro p r s x y e1 e2 hxy
    have hp : p.length = t := by
      rcases Nat.lt_trichotomy p.length t with h | h | h
      · have e3 : (xs.take t)[p.length]? = (ys.take t)[p.length]? := by rw [ht]
        rw [List.getElem?_take_of_lt h, List.getElem?_take_of_lt h, e1, e2] at e3
        simp at e3
        exact absurd e3 hxy
      · exact h
      · exfalso
        apply hne
        rw [e1, e2]
        simp [List.getD, List.getElem?_append_left h]
    subst hp
    rw [e1, e2]
    simp [List.getD]
  rcases h with ⟨h, rfl⟩ | ⟨h, p, x, y, r, s, e1, e2, hx⟩ | ⟨h, p, x, y, r, s, e1, e2, hx⟩
  · exact absurd rfl hne
  · obtain ⟨g1, g2⟩ := key p r s x y e1 e2 (by omega)
    exact .inl ⟨h, by omega⟩
  · obtain ⟨g1, g2⟩ := key p r s x y e1 e2 (by omega)
    exact .inr ⟨h, by omega⟩

end Go.Proofs.Ythhkpkfpifllkaa

namespace Go.Proofs.Ythhkpkfpifllkaa
open Go.RowKit
set_option linter.unusedVariables false
theorem keyL_bys {e : EntD} (hr : Bys e.row) (hq : Bys e.qual) (hc : checkS e = 0) : Bys (keyL e) := by
  obtain ⟨_, f, _, _, t, s, k, _⟩ := check_facts hc
  rw [keyL_parts]
  have m5 : ∀ a b : Int, mark a b < 256 := by intro a b; unfold mark; split <;> omega
  refine Bys.app (ordL_bys _ hr) (Bys.app (fun x hx => by simp at hx; omega) (Bys.app (fun x hx => by simp at hx; rw [hx]; exact m5 _ _) (Bys.app ?_ (Bys.app (be8_bys _) (Bys.app (be8_bys _) (Bys.app (fun x hx => by simp at hx; omega) (fun x hx => by simp at hx)))))))
  split
  · intro x hx; simp at hx
  · exact Bys.app (ordL_bys _ hq) (fun x hx => by simp at hx; rw [hx]; exact m5 _ _)
theorem keyL_len {e : EntD} (hc : checkS e = 0) : (keyL e).length ≤ 2000 := by
  obtain ⟨f1, f, f3, _, t, s, k, _⟩ := check_facts hc
  rw [keyL_parts]
  have l1 := ordL_len e.row
  have l2 := ordL_len e.qual
  have c1 : e.row.count 0 ≤ e.row.length := List.count_le_length
  have c2 : e.qual.count 0 ≤ e.qual.length := List.count_le_length
  split <;> simp [be8] <;> omega

end Go.Proofs.Ythhkpkfpifllkaa

namespace Go.Proofs.Ythhkpkfpifllkaa
open Go.RowKit
set_option linter.unusedVariables false

theorem ruint_uintF : ∀ (f u i q : Nat) (rest : List Nat), i + f = 9 → u < 128 ^ (f + 1) → (0 < i → 0 < u) → q < 128 ^ i → q + u * 128 ^ i < 18446744073709551616 → ruint f (uintF f u ++ rest) i q = (q + u * 128 ^ i, i + (uintF f u).length, 0) := by
  intro f
  induction f with
  | zero =>
    intro u i q rest hi hu hp hq ht
    have hi9 : i = 9 := by omega
    subst hi9
    have hu1 : u ≤ 1 := by
      have e : (128 : Nat) ^ 9 = 9223372036854775808 := by decide
      rw [e] at ht
      omega
    show ruint 0 (u :: rest) 9 q = _
    unfold ruint
    rw [if_neg (by omega), if_neg (by omega), if_neg (by omega)]
    rw [Nat.mod_eq_of_lt (by omega)]
    rfl
  | succ f ih =>
    intro u i q rest hi hu hp hq ht
    by_cases h127 : 127 < u
    · rw [uintF_go f u h127, List.cons_append]
      unfold ruint
      rw [if_neg (by omega), if_pos (by omega)]
      have e1 : (u % 128 + 128) % 128 = u % 128 := by omega
      rw [e1]
      have e2 : q + u % 128 * 128 ^ i + u / 128 * 128 ^ (i + 1) = q + u * 128 ^ i := by
        have : u * 128 ^ i = (128 * (u / 128) + u % 128) * 128 ^ i := by rw [Nat.div_add_mod]
        rw [this, Nat.add_mul, Nat.pow_succ]
        have : u / 128 * (128 ^ i * 128) = 128 * (u / 128) * 128 ^ i := by rw [Nat.mul_comm (128 ^ i) 128, ← Nat.mul_assoc, Nat.mul_comm (u / 128) 128]
        omega
      rw [ih (u / 128) (i + 1) _ rest (by omega) (by rw [Nat.pow_succ] at hu; exact Nat.div_lt_of_lt_mul (by rw [Nat.mul_comm]; exact hu)) (by omega) (next_lt q u i hq) (by rw [e2]; exact ht), e2]
      simp
      omega
    · rw [uintF_stop (f + 1) u (by omega)]
      show ruint (f + 1) (u :: rest) i q = _
      unfold ruint
      rw [if_neg (by omega), if_neg (by omega), if_neg (by omega), Nat.mod_eq_of_lt (by omega)]
      rfl

theorem uint_trip (v : Nat) (hv : v < 18446744073709551616) (pre rest : List Nat) : uintR (pre ++ (uintL v ++ rest)) pre.length = (v, pre.length + (uintL v).length, 0) := by
  unfold uintR
  rw [List.drop_left]
  have := ruint_uintF 9 v 0 0 rest rfl (Nat.lt_of_lt_of_le hv (by decide)) (by omega) (by simp) (by simpa using hv)
  rw [uintL, this]
  simp
theorem bytes_trip (bs : List Nat) (hl : bs.length < 18446744073709551616) (most : Nat) (hm : bs.length ≤ most) (pre rest : List Nat) :
    bytesR (pre ++ (bytesL bs ++ rest)) pre.length most = (bs, pre.length + (bytesL bs).length, 0) := by
  unfold bytesR bytesL
  rw [List.append_assoc (uintL bs.length) bs rest, uint_trip bs.length hl pre (bs ++ rest)]
  have h1 : ¬ most < bs.length := by omega
  have h2 : ¬ (pre ++ (uintL bs.length ++ (bs ++ rest))).length < pre.length + (uintL bs.length).length + bs.length := by simp; omega
  simp only [ne_eq, not_true_eq_false, if_false, h1, h2]
  have e : pre ++ (uintL bs.length ++ (bs ++ rest)) = (pre ++ uintL bs.length) ++ (bs ++ rest) := by simp
  rw [e, show pre.length + (uintL bs.length).length = (pre ++ uintL bs.length).length by simp, List.drop_left, List.take_left]
  simp
  omega

end Go.Proofs.Ythhkpkfpifllkaa

namespace Go.Proofs.Ythhkpkfpifllkaa
open Go.RowKit
set_option linter.unusedVariables false

theorem appendR {w : World} {o : Oper} {a : Act} {K : Act → World → Prop} {Q : Exit → Act → World → Prop} (s x : Operand)
    (ho : o.op = .call { callee := .builtin .append, args := #[s, x], argTypes := #[43, 43] })
    (B : Nat) (a0 : Option Addr) (m0 c0 : Nat) (acc : List Nat) (hs : a.eval s = .slice a0 m0 c0) (hown : Own w B (.slice a0 m0 c0) m0 acc)
    (ad : Addr) (m c : Nat) (bs : List Nat) (hx : a.eval x = .slice (some ad) m c) (hrd : Rd w (.slice (some ad) m c) bs)
    (hbytes : m0 + m ≤ 140737488355328) (hB : B ≤ w.heap.size)
    (h : ∀ a' m' c' w', Own w' B (.slice a' m' c') m' (acc ++ bs) → Below B w w' → K (a.put o.dst (.slice a' m' c')) w') : o.wp Try.prog a w K Q := by
  obtain ⟨i0, hi, hz0, hz1, hz2⟩ := info_parts info_byte
  obtain ⟨hby, a1, c1, h2, hle, hm, hl48, hnone, hat⟩ := hrd
  simp only [Value.slice.injEq] at h2
  obtain ⟨rfl, rfl, rfl⟩ := h2
  refine wp_append_own _ s x 43 ho B 5 i0 (.int .u8 0) 1 1 und_bytes hi hz0 hz1 hz2 rfl (by decide) _ m0 (bv acc) hs hown.2 ad bs.length c (bv bs) hx (by simp [bv]) hat.add (bv_oneCell bs) (by unfold maxLen; omega) (by omega) hB ?_
  intro v' w' h1 h2 _
  obtain ⟨a', c', rfl⟩ := own_form h1
  refine h a' _ c' w' ⟨by rw [hown.1]; simp, by simpa [bv] using h1⟩ ((Below.refl B w).grown h2 hB (fun k hk => (hown.2.lt k hk).1))
theorem bytesL_pos (l : List Nat) : 1 ≤ (bytesL l).length := by
  have := uintL_len l.length
  simp [bytesL]; omega
theorem bytesL_bys {l : List Nat} (h : Bys l) (hl : l.length < 18446744073709551616) : Bys (bytesL l) := Bys.app (uintL_bys _ hl) h
theorem bytesL_le (l : List Nat) : (bytesL l).length ≤ l.length + 10 := by
  have := uintL_len l.length
  simp [bytesL]; omega
theorem own_some {w : World} {B m c : Nat} {a : Option Addr} {xs : List Nat} (h : Own w B (.slice a m c) m xs) (hp : 1 ≤ xs.length) : ∃ ad, a = some ad := by
  rcases h.2.2 with ⟨h1, h2⟩ | ⟨g, cap, cur, h1, _⟩
  · have := h.1; omega
  · simp only [Value.slice.injEq] at h1
    exact ⟨_, h1.1⟩

def packL (e : EntD) : List Nat := bytesL (keyL e) ++ bytesL e.val

def EntD.Same (a b : EntD) : Prop := a.fam = b.fam ∧ a.ts = b.ts ∧ a.seq = b.seq ∧ a.kind = b.kind ∧ a.row = b.row ∧ a.qual = b.qual ∧ a.val = b.val
theorem EntD.Same.symm {a b : EntD} (h : EntD.Same a b) : EntD.Same b a := ⟨h.1.symm, h.2.1.symm, h.2.2.1.symm, h.2.2.2.1.symm, h.2.2.2.2.1.symm, h.2.2.2.2.2.1.symm, h.2.2.2.2.2.2.symm⟩

end Go.Proofs.Ythhkpkfpifllkaa
