import Derived.Test.YtpabbnddeklpdaaGreatK01
import Derived.Lib.Bytealg
import Derived.Laws.EntriesVeiled
import Derived.Handy
namespace Go.Proofs.YtpabbnddeklpdaaGreat
open Go.RowKit
set_option linter.unusedVariables false

theorem bytesOf_rd {w : World} {v : Value} {bs : List Nat} (h : Rd w v bs) : (Extern.Bytes.bytesOf v).run Tryz.prog w = .ok ⟨(Lib.bytesOf (bs.map fun n : Nat => (n : Int))).toArray⟩ w := by
 obtain ⟨hby, a, cap, rfl, hle, hm, hl48, hnone, hat⟩ := h
 cases a with
 | none =>
  have hb0 : bs = [] := by
   rcases hnone with h | ⟨b, off, h⟩
   ·exact List.eq_nil_of_length_eq_zero (by omega)
   ·cases h
  subst hb0
  rfl
 | some x =>
  have hi := ints_at hat
  have := Lib.run_loadBytesX (P := Tryz.prog) w (bs.map fun n : Nat => (n : Int)) x .empty (fun j y hj => by
   have hjl : j < bs.length := by
    have := (List.getElem?_eq_some_iff.1 hj).1
    simpa using this
   rw [hi j hjl]
   simp [List.getD, hj])
  simp only [List.length_map] at this
  show (Extern.Bytes.loadBytes x bs.length .empty).run Tryz.prog w = _
  rw [this]
  simp
theorem compare_ordC : ∀ (xs ys : List Nat), Bys xs → Bys ys → Lib.compareBytes (Lib.bytesOf (xs.map fun n : Nat => (n : Int))) (Lib.bytesOf (ys.map fun n : Nat => (n : Int))) = ordC xs ys
 | [], [], _, _ => rfl
 | [], _ :: _, _, _ => rfl
 | _ :: _, [], _, _ => rfl
 | a :: r1, b :: r2, ha, hb => by
  have ih := compare_ordC r1 r2 (fun x hx => ha x (by simp [hx])) (fun x hx => hb x (by simp [hx]))
  have h1 := ha a (by simp)
  have h2 := hb b (by simp)
  have e1 : ∀ c : Nat, c < 256 → ∀ d : Nat, d < 256 → ((c : Int).toNat.toUInt8 < (d : Int).toNat.toUInt8 ↔ c < d) := by
   intro c hc d hd
   simp [UInt8.lt_iff_toNat_lt, Nat.toUInt8, Nat.mod_eq_of_lt hc, Nat.mod_eq_of_lt hd]
  show (if (a : Int).toNat.toUInt8 < (b : Int).toNat.toUInt8 then -1 else if (b : Int).toNat.toUInt8 < (a : Int).toNat.toUInt8 then 1 else Lib.compareBytes (Lib.bytesOf (r1.map fun n : Nat => (n : Int))) (Lib.bytesOf (r2.map fun n : Nat => (n : Int)))) = ordC (a :: r1) (b :: r2)
  rw [ih]
  simp only [e1 a h1 b h2, e1 b h2 a h1]
  rfl

set_option maxRecDepth 100000 in
set_option maxHeartbeats 1000000 in
theorem bytesCompare_any {va vb : Value} {xs ys : List Nat} {w : World} (ha : Rd w va xs) (hb : Rd w vb ys) :
  Calls Tryz.prog 60 #[va, vb] w fun e w' => e = .returned (.int .i64 (ordC xs ys)) ∧ w' = w := by
 have h1 := bytesOf_rd ha
 have h2 := bytesOf_rd hb
 have hcmp : (Extern.BytealgCompare.compare #[va, vb]).run Tryz.prog w = .ok (.int .i64 (ordC xs ys)) w := by
  change Sem.run Tryz.prog (do pure (goInt (Extern.BytealgCompare.cmp (← Extern.Bytes.bytesOf va) (← Extern.Bytes.bytesOf vb)))) w = _
  simp only [Sem.run_bind, h1, h2, Sem.run_pure, Result.andThen]
  rw [Lib.cmp_eq, ← compare_ordC xs ys ha.1 hb.1]
  rfl
 have HCMP : Hid ((Extern.BytealgCompare.compare #[va, vb]).run Tryz.prog w = .ok (.int .i64 (ordC xs ys)) w) := hcmp
 clear h1 h2 hcmp
 go_enter Tryz.func60, Tryz.ntmps60
 go_wp2
 rw [run_callFunc_extern Tryz.func83 (by kernel_rfl) (by kernel_rfl) (by kernel_rfl) (e := Extern.BytealgCompare.compare) (by kernel_rfl), HCMP.out]
 simp only [Result.andThen]
 rw [Oper.upon_value]
 go_wp2
 go_ret
 exact ⟨rfl, rfl⟩

def cmpI (a b : Int) : Int := if a < b then -1 else if b < a then 1 else 0
theorem isNaN_int (a : Int) (w : World) : Calls Tryz.prog 84 #[.int .i64 a] w fun e w' => e = .returned (.bool false) ∧ w' = w := by
 go_enter Tryz.func84, Tryz.ntmps84
 go_wp2
 go_ret
 exact ⟨by simp, rfl⟩
theorem isNaN_byte (a : Int) (w : World) : Calls Tryz.prog 91 #[.int .u8 a] w fun e w' => e = .returned (.bool false) ∧ w' = w := by
 go_enter Tryz.func91, Tryz.ntmps91
 go_wp2
 go_ret
 exact ⟨by simp, rfl⟩
set_option maxHeartbeats 1000000 in
theorem cmpInt_any (a b : Int) (w : World) : Calls Tryz.prog 62 #[.int .i64 a, .int .i64 b] w fun e w' => e = .returned (.int .i64 (cmpI a b)) ∧ w' = w := by
 by_cases h1 : a < b
 ·have HE : Hid (cmpI a b = -1) := by unfold Hid cmpI; rw [if_pos h1]
  go_enter Tryz.func62, Tryz.ntmps62
  go_wp2_with (go_at_call 84; refine (isNaN_int _ _).mono ?_; rintro e1 w1 ⟨rfl, rfl⟩)
  go_ret
  exact ⟨by rw [HE.out]; rfl, rfl⟩
 ·by_cases h2 : b < a
  ·have HE : Hid (cmpI a b = 1) := by unfold Hid cmpI; rw [if_neg h1, if_pos h2]
   have h3 : b ≤ a := by omega
   clear h1
   go_enter Tryz.func62, Tryz.ntmps62
   go_wp2_with (go_at_call 84; refine (isNaN_int _ _).mono ?_; rintro e1 w1 ⟨rfl, rfl⟩)
   go_ret
   exact ⟨by rw [HE.out]; rfl, rfl⟩
  ·have HE : Hid (cmpI a b = 0) := by unfold Hid cmpI; rw [if_neg h1, if_neg h2]
   obtain rfl : a = b := by omega
   clear h1 h2
   go_enter Tryz.func62, Tryz.ntmps62
   go_wp2_with (go_at_call 84; refine (isNaN_int _ _).mono ?_; rintro e1 w1 ⟨rfl, rfl⟩)
   go_ret
   exact ⟨by rw [HE.out]; rfl, rfl⟩
set_option maxHeartbeats 1000000 in
theorem cmpByte_any (a b : Int) (w : World) : Calls Tryz.prog 85 #[.int .u8 a, .int .u8 b] w fun e w' => e = .returned (.int .i64 (cmpI a b)) ∧ w' = w := by
 by_cases h1 : a < b
 ·have HE : Hid (cmpI a b = -1) := by unfold Hid cmpI; rw [if_pos h1]
  go_enter Tryz.func85, Tryz.ntmps85
  go_wp2_with (go_at_call 91; refine (isNaN_byte _ _).mono ?_; rintro e1 w1 ⟨rfl, rfl⟩)
  go_ret
  exact ⟨by rw [HE.out]; rfl, rfl⟩
 ·by_cases h2 : b < a
  ·have HE : Hid (cmpI a b = 1) := by unfold Hid cmpI; rw [if_neg h1, if_pos h2]
   have h3 : b ≤ a := by omega
   clear h1
   go_enter Tryz.func85, Tryz.ntmps85
   go_wp2_with (go_at_call 91; refine (isNaN_byte _ _).mono ?_; rintro e1 w1 ⟨rfl, rfl⟩)
   go_ret
   exact ⟨by rw [HE.out]; rfl, rfl⟩
  ·have HE : Hid (cmpI a b = 0) := by unfold Hid cmpI; rw [if_neg h1, if_neg h2]
   obtain rfl : a = b := by omega
   clear h1 h2
   go_enter Tryz.func85, Tryz.ntmps85
   go_wp2_with (go_at_call 91; refine (isNaN_byte _ _).mono ?_; rintro e1 w1 ⟨rfl, rfl⟩)
   go_ret
   exact ⟨by rw [HE.out]; rfl, rfl⟩

end Go.Proofs.YtpabbnddeklpdaaGreat

namespace Go.Proofs.YtpabbnddeklpdaaGreat
open Go.RowKit
set_option linter.unusedVariables false

def aheadS (a b : EntD) (k : Int) : Int := cmpI ((mark a.kind k : Nat) : Int) ((mark b.kind k : Nat) : Int)
theorem markOf_m (k a : Int) (w : World) : Calls Tryz.prog 78 #[.int .i64 k, .int .i64 a] w fun e w' => e = .returned (.int .u8 ((mark k a : Nat) : Int)) ∧ w' = w := markOf_any k a w

set_option maxRecDepth 100000 in
set_option maxHeartbeats 2000000 in
theorem aheadIf_any {a b : EntD} (k : Int) {w : World} :
  Calls Tryz.prog 64 #[.agg a.cells, .agg b.cells, .int .i64 k] w fun r w' => r = .returned (.int .i64 (aheadS a b k)) ∧ Below w.heap.size w w' := by
 obtain ⟨S, hS⟩ : ∃ S, S = aheadS a b k := ⟨_, rfl⟩
 rw [← hS]
 have HS : Hid (cmpI ((mark a.kind k : Nat) : Int) ((mark b.kind k : Nat) : Int) = S) := by unfold Hid; rw [hS]; rfl
 clear hS
 obtain ⟨M1, hM1⟩ : ∃ M, M = mark a.kind k := ⟨_, rfl⟩
 obtain ⟨M2, hM2⟩ : ∃ M, M = mark b.kind k := ⟨_, rfl⟩
 have q1 := fun w => markOf_m a.kind k w
 have q2 := fun w => markOf_m b.kind k w
 have q3 := fun w => cmpByte_any (M1 : Int) (M2 : Int) w
 rw [← hM1] at q1
 rw [← hM2] at q2
 have HS2 : cmpI (M1 : Int) (M2 : Int) = S := by rw [hM1, hM2]; exact HS.out
 rw [HS2] at q3
 have HQ1 : Hid (∀ w, Calls Tryz.prog 78 #[.int .i64 a.kind, .int .i64 k] w fun e w' => e = .returned (.int .u8 ((M1 : Nat) : Int)) ∧ w' = w) := q1
 have HQ2 : Hid (∀ w, Calls Tryz.prog 78 #[.int .i64 b.kind, .int .i64 k] w fun e w' => e = .returned (.int .u8 ((M2 : Nat) : Int)) ∧ w' = w) := q2
 have HQ3 : Hid (∀ w, Calls Tryz.prog 85 #[.int .u8 (M1 : Int), .int .u8 (M2 : Int)] w fun e w' => e = .returned (.int .i64 S) ∧ w' = w) := q3
 clear q1 q2 q3 hM1 hM2 HS HS2
 have A1 := (Below.refl w.heap.size w).alloc (Nat.le_refl _) (.cells a.cells 38)
 have A2 := A1.alloc A1.size (.cells b.cells 38)
 have bxa : Hid (EBox ((w.alloc (.cells a.cells 38)).alloc (.cells b.cells 38)) w.heap.size a) := (EBox.new w a).later ((Below.refl _ _).alloc (Nat.le_refl _) _)
 have bxb : Hid (EBox ((w.alloc (.cells a.cells 38)).alloc (.cells b.cells 38)) (w.heap.size + 1) b) := by
  have := EBox.new (w.alloc (.cells a.cells 38)) b
  rwa [World.size_alloc] at this
 have A2D : Below w.heap.size w ((w.alloc (.cells a.cells 38)).alloc (.cells b.cells 38)).drew := A2.drew
 have ya : ((w.alloc (.cells a.cells 38)).alloc (.cells b.cells 38)).drew.cell? ⟨w.heap.size, 5, none⟩ = some (.int .i64 a.kind) := bxa.out.kind
 have yb : ((w.alloc (.cells a.cells 38)).alloc (.cells b.cells 38)).drew.cell? ⟨w.heap.size + 1, 5, none⟩ = some (.int .i64 b.kind) := bxb.out.kind
 clear A1 bxa bxb
 obtain ⟨vr, fam, vq, ts, seq, ka, vv, row, qual, val⟩ := a
 obtain ⟨vr2, fam2, vq2, ts2, seq2, kb, vv2, row2, qual2, val2⟩ := b
 simp only [EntD.cells] at *
 go_enter Tryz.func64, Tryz.ntmps64
 go_wp2_with fail
 go_region_held3 (fun wx => wx.cell? ⟨w.heap.size, 5, none⟩ = some (.int .i64 ka) ∧ wx.cell? ⟨w.heap.size + 1, 5, none⟩ = some (.int .i64 kb) ∧ Below w.heap.size w wx) (first | exact ⟨ya, yb, A2D⟩) (first | (go_at_call 78; refine (HQ1.out _).mono ?_; rintro e1 wm ⟨rfl, rfl⟩) | (go_at_call 78; refine (HQ2.out _).mono ?_; rintro e1 wm ⟨rfl, rfl⟩) | (go_at_call 85; refine (HQ3.out _).mono ?_; rintro e1 wm ⟨rfl, rfl⟩))
 all_goals (go_wp2; go_ret; exact ⟨rfl, A2D⟩)

set_option maxRecDepth 100000 in
set_option maxHeartbeats 1000000 in
theorem ord1_any {a b : EntD} {w : World} (ha : EntD.Ok w a) (hb : EntD.Ok w b) :
  Calls Tryz.prog 59 #[.agg a.cells, .agg b.cells] w fun r w' => r = .returned (.int .i64 (ordC a.row b.row)) ∧ Below w.heap.size w w' := by
 have A1 := (Below.refl w.heap.size w).alloc (Nat.le_refl _) (.cells a.cells 38)
 have A2 := A1.alloc A1.size (.cells b.cells 38)
 have oa := ha.later A2
 have ob := hb.later A2
 clear A1 ha hb
 obtain ⟨vr, fam, vq, ts, seq, ka, vv, row, qual, val⟩ := a
 obtain ⟨vr2, fam2, vq2, ts2, seq2, kb, vv2, row2, qual2, val2⟩ := b
 obtain ⟨r1, q1, v1⟩ := oa
 obtain ⟨r2, q2, v2⟩ := ob
 simp only [EntD.cells] at *
 go_enter Tryz.func59, Tryz.ntmps59
 go_wp2_with fail
 refine (bytesCompare_any r1 r2).mono ?_
 rintro e1 w1 ⟨rfl, rfl⟩
 go_wp2
 go_ret
 exact ⟨rfl, A2⟩

set_option maxRecDepth 100000 in
set_option maxHeartbeats 1000000 in
theorem ord2_any {a b : EntD} {w : World} (ha : EntD.Ok w a) (hb : EntD.Ok w b) :
  Calls Tryz.prog 61 #[.agg a.cells, .agg b.cells] w fun r w' => r = .returned (.int .i64 (cmpI a.fam b.fam)) ∧ Below w.heap.size w w' := by
 have A1 := (Below.refl w.heap.size w).alloc (Nat.le_refl _) (.cells a.cells 38)
 have A2 := A1.alloc A1.size (.cells b.cells 38)
 have oa := ha.later A2
 have ob := hb.later A2
 clear A1 ha hb
 obtain ⟨vr, fam, vq, ts, seq, ka, vv, row, qual, val⟩ := a
 obtain ⟨vr2, fam2, vq2, ts2, seq2, kb, vv2, row2, qual2, val2⟩ := b
 obtain ⟨r1, q1, v1⟩ := oa
 obtain ⟨r2, q2, v2⟩ := ob
 simp only [EntD.cells] at *
 go_enter Tryz.func61, Tryz.ntmps61
 go_wp2_with fail
 refine (cmpInt_any _ _ _).mono ?_
 rintro e1 w1 ⟨rfl, rfl⟩
 go_wp2
 go_ret
 exact ⟨rfl, A2⟩

set_option maxRecDepth 100000 in
set_option maxHeartbeats 1000000 in
theorem ord3_any {a b : EntD} {w : World} (ha : EntD.Ok w a) (hb : EntD.Ok w b) :
  Calls Tryz.prog 63 #[.agg a.cells, .agg b.cells] w fun r w' => r = .returned (.int .i64 (aheadS a b 5)) ∧ Below w.heap.size w w' := by
 have A1 := (Below.refl w.heap.size w).alloc (Nat.le_refl _) (.cells a.cells 38)
 have A2 := A1.alloc A1.size (.cells b.cells 38)
 have oa := ha.later A2
 have ob := hb.later A2
 clear A1 ha hb
 have c1 := aheadIf_any (a := a) (b := b) 5 (w := (w.alloc (.cells a.cells 38)).alloc (.cells b.cells 38))
 obtain ⟨S, hS⟩ : ∃ S, S = aheadS a b 5 := ⟨_, rfl⟩
 rw [← hS] at c1 ⊢
 have HC : Hid (Calls Tryz.prog 64 #[.agg a.cells, .agg b.cells, .int .i64 5] ((w.alloc (.cells a.cells 38)).alloc (.cells b.cells 38)) fun r w' => r = .returned (.int .i64 S) ∧ Below ((w.alloc (.cells a.cells 38)).alloc (.cells b.cells 38)).heap.size ((w.alloc (.cells a.cells 38)).alloc (.cells b.cells 38)) w') := c1
 clear c1 hS
 obtain ⟨vr, fam, vq, ts, seq, ka, vv, row, qual, val⟩ := a
 obtain ⟨vr2, fam2, vq2, ts2, seq2, kb, vv2, row2, qual2, val2⟩ := b
 obtain ⟨r1, q1, v1⟩ := oa
 obtain ⟨r2, q2, v2⟩ := ob
 simp only [EntD.cells] at *
 go_enter Tryz.func63, Tryz.ntmps63
 go_wp2_with fail
 refine HC.out.mono ?_
 rintro e1 w1 ⟨rfl, hb1⟩
 have B1 := A2.trans (hb1.mono A2.size)
 go_wp2
 go_ret
 exact ⟨rfl, B1⟩

set_option maxRecDepth 100000 in
set_option maxHeartbeats 1000000 in
theorem ord4_any {a b : EntD} {w : World} (ha : EntD.Ok w a) (hb : EntD.Ok w b) :
  Calls Tryz.prog 65 #[.agg a.cells, .agg b.cells] w fun r w' => r = .returned (.int .i64 (ordC a.qual b.qual)) ∧ Below w.heap.size w w' := by
 have A1 := (Below.refl w.heap.size w).alloc (Nat.le_refl _) (.cells a.cells 38)
 have A2 := A1.alloc A1.size (.cells b.cells 38)
 have oa := ha.later A2
 have ob := hb.later A2
 clear A1 ha hb
 obtain ⟨vr, fam, vq, ts, seq, ka, vv, row, qual, val⟩ := a
 obtain ⟨vr2, fam2, vq2, ts2, seq2, kb, vv2, row2, qual2, val2⟩ := b
 obtain ⟨r1, q1, v1⟩ := oa
 obtain ⟨r2, q2, v2⟩ := ob
 simp only [EntD.cells] at *
 go_enter Tryz.func65, Tryz.ntmps65
 go_wp2_with fail
 refine (bytesCompare_any q1 q2).mono ?_
 rintro e1 w1 ⟨rfl, rfl⟩
 go_wp2
 go_ret
 exact ⟨rfl, A2⟩

set_option maxRecDepth 100000 in
set_option maxHeartbeats 1000000 in
theorem ord5_any {a b : EntD} {w : World} (ha : EntD.Ok w a) (hb : EntD.Ok w b) :
  Calls Tryz.prog 66 #[.agg a.cells, .agg b.cells] w fun r w' => r = .returned (.int .i64 (aheadS a b 4)) ∧ Below w.heap.size w w' := by
 have A1 := (Below.refl w.heap.size w).alloc (Nat.le_refl _) (.cells a.cells 38)
 have A2 := A1.alloc A1.size (.cells b.cells 38)
 have oa := ha.later A2
 have ob := hb.later A2
 clear A1 ha hb
 have c1 := aheadIf_any (a := a) (b := b) 4 (w := (w.alloc (.cells a.cells 38)).alloc (.cells b.cells 38))
 obtain ⟨S, hS⟩ : ∃ S, S = aheadS a b 4 := ⟨_, rfl⟩
 rw [← hS] at c1 ⊢
 have HC : Hid (Calls Tryz.prog 64 #[.agg a.cells, .agg b.cells, .int .i64 4] ((w.alloc (.cells a.cells 38)).alloc (.cells b.cells 38)) fun r w' => r = .returned (.int .i64 S) ∧ Below ((w.alloc (.cells a.cells 38)).alloc (.cells b.cells 38)).heap.size ((w.alloc (.cells a.cells 38)).alloc (.cells b.cells 38)) w') := c1
 clear c1 hS
 obtain ⟨vr, fam, vq, ts, seq, ka, vv, row, qual, val⟩ := a
 obtain ⟨vr2, fam2, vq2, ts2, seq2, kb, vv2, row2, qual2, val2⟩ := b
 obtain ⟨r1, q1, v1⟩ := oa
 obtain ⟨r2, q2, v2⟩ := ob
 simp only [EntD.cells] at *
 go_enter Tryz.func66, Tryz.ntmps66
 go_wp2_with fail
 refine HC.out.mono ?_
 rintro e1 w1 ⟨rfl, hb1⟩
 have B1 := A2.trans (hb1.mono A2.size)
 go_wp2
 go_ret
 exact ⟨rfl, B1⟩

set_option maxRecDepth 100000 in
set_option maxHeartbeats 1000000 in
theorem ord6_any {a b : EntD} {w : World} (ha : EntD.Ok w a) (hb : EntD.Ok w b) :
  Calls Tryz.prog 67 #[.agg a.cells, .agg b.cells] w fun r w' => r = .returned (.int .i64 (cmpI b.ts a.ts)) ∧ Below w.heap.size w w' := by
 have A1 := (Below.refl w.heap.size w).alloc (Nat.le_refl _) (.cells a.cells 38)
 have A2 := A1.alloc A1.size (.cells b.cells 38)
 have oa := ha.later A2
 have ob := hb.later A2
 clear A1 ha hb
 obtain ⟨vr, fam, vq, ts, seq, ka, vv, row, qual, val⟩ := a
 obtain ⟨vr2, fam2, vq2, ts2, seq2, kb, vv2, row2, qual2, val2⟩ := b
 obtain ⟨r1, q1, v1⟩ := oa
 obtain ⟨r2, q2, v2⟩ := ob
 simp only [EntD.cells] at *
 go_enter Tryz.func67, Tryz.ntmps67
 go_wp2_with fail
 refine (cmpInt_any _ _ _).mono ?_
 rintro e1 w1 ⟨rfl, rfl⟩
 go_wp2
 go_ret
 exact ⟨rfl, A2⟩

set_option maxRecDepth 100000 in
set_option maxHeartbeats 1000000 in
theorem ord7_any {a b : EntD} {w : World} (ha : EntD.Ok w a) (hb : EntD.Ok w b) :
  Calls Tryz.prog 68 #[.agg a.cells, .agg b.cells] w fun r w' => r = .returned (.int .i64 (cmpI b.seq a.seq)) ∧ Below w.heap.size w w' := by
 have A1 := (Below.refl w.heap.size w).alloc (Nat.le_refl _) (.cells a.cells 38)
 have A2 := A1.alloc A1.size (.cells b.cells 38)
 have oa := ha.later A2
 have ob := hb.later A2
 clear A1 ha hb
 obtain ⟨vr, fam, vq, ts, seq, ka, vv, row, qual, val⟩ := a
 obtain ⟨vr2, fam2, vq2, ts2, seq2, kb, vv2, row2, qual2, val2⟩ := b
 obtain ⟨r1, q1, v1⟩ := oa
 obtain ⟨r2, q2, v2⟩ := ob
 simp only [EntD.cells] at *
 go_enter Tryz.func68, Tryz.ntmps68
 go_wp2_with fail
 refine (cmpInt_any _ _ _).mono ?_
 rintro e1 w1 ⟨rfl, rfl⟩
 go_wp2
 go_ret
 exact ⟨rfl, A2⟩

set_option maxRecDepth 100000 in
set_option maxHeartbeats 1000000 in
theorem ord8_any {a b : EntD} {w : World} (ha : EntD.Ok w a) (hb : EntD.Ok w b) :
  Calls Tryz.prog 69 #[.agg a.cells, .agg b.cells] w fun r w' => r = .returned (.int .i64 (cmpI a.kind b.kind)) ∧ Below w.heap.size w w' := by
 have A1 := (Below.refl w.heap.size w).alloc (Nat.le_refl _) (.cells a.cells 38)
 have A2 := A1.alloc A1.size (.cells b.cells 38)
 have oa := ha.later A2
 have ob := hb.later A2
 clear A1 ha hb
 obtain ⟨vr, fam, vq, ts, seq, ka, vv, row, qual, val⟩ := a
 obtain ⟨vr2, fam2, vq2, ts2, seq2, kb, vv2, row2, qual2, val2⟩ := b
 obtain ⟨r1, q1, v1⟩ := oa
 obtain ⟨r2, q2, v2⟩ := ob
 simp only [EntD.cells] at *
 go_enter Tryz.func69, Tryz.ntmps69
 go_wp2_with fail
 refine (cmpInt_any _ _ _).mono ?_
 rintro e1 w1 ⟨rfl, rfl⟩
 go_wp2
 go_ret
 exact ⟨rfl, A2⟩

end Go.Proofs.YtpabbnddeklpdaaGreat

namespace Go.Proofs.YtpabbnddeklpdaaGreat
open Go.RowKit
set_option linter.unusedVariables false

def cmpsS (a b : EntD) : List Int := [ordC a.row b.row, cmpI a.fam b.fam, aheadS a b 5, ordC a.qual b.qual, aheadS a b 4, cmpI b.ts a.ts, cmpI b.seq a.seq, cmpI a.kind b.kind]
def firstNZ : List Int → Int
 | [] => 0
 | x :: r => if x = 0 then firstNZ r else x
def compareS (a b : EntD) : Int := firstNZ (cmpsS a b)
theorem firstNZ_at : ∀ (l : List Int) (t : Nat), (∀ j, j < t → l.getD j 0 = 0) → l.getD t 0 ≠ 0 → firstNZ l = l.getD t 0
 | [], t, _, h => by simp at h
 | x :: r, 0, _, h => by simp at h ⊢; simp [firstNZ, h]
 | x :: r, t + 1, h0, h => by
  have hx : x = 0 := by simpa using h0 0 (by omega)
  have := firstNZ_at r t (fun j hj => by simpa using h0 (j + 1) (by omega)) (by simpa using h)
  simp [firstNZ, hx]
  simpa using this
theorem firstNZ_none : ∀ (l : List Int), (∀ j, j < l.length → l.getD j 0 = 0) → firstNZ l = 0
 | [], _ => rfl
 | x :: r, h => by
  have hx : x = 0 := by simpa using h 0 (by simp)
  have := firstNZ_none r (fun j hj => by simpa using h (j + 1) (by simp; omega))
  simp [firstNZ, hx, this]

set_option maxRecDepth 100000 in
set_option maxHeartbeats 1000000 in
theorem order_fns (w : World) : Calls Tryz.prog 42 #[] w fun r w' => r = .returned (.agg #[.func (.func 59) #[] #[], .func (.func 61) #[] #[], .func (.func 63) #[] #[], .func (.func 65) #[] #[], .func (.func 66) #[] #[], .func (.func 67) #[] #[], .func (.func 68) #[] #[], .func (.func 69) #[] #[]]) ∧ Below w.heap.size w w' := by
 have A1 := (Below.refl w.heap.size w).alloc (Nat.le_refl _) (.cells #[.func (.func 59) #[] #[], .func (.func 61) #[] #[], .func (.func 63) #[] #[], .func (.func 65) #[] #[], .func (.func 66) #[] #[], .func (.func 67) #[] #[], .func (.func 68) #[] #[], .func (.func 69) #[] #[]] 77)
 go_enter Tryz.func42, Tryz.ntmps42
 go_wp2
 go_returns
 exact ⟨rfl, A1⟩

set_option maxRecDepth 100000 in
set_option maxHeartbeats 8000000 in
theorem compare_any {a b : EntD} {w : World} (ha : EntD.Ok w a) (hb : EntD.Ok w b) :
  Calls Tryz.prog 22 #[.agg a.cells, .agg b.cells] w fun r w' => r = .returned (.int .i64 (compareS a b)) ∧ Below w.heap.size w w' := by
 have A1 := (Below.refl w.heap.size w).alloc (Nat.le_refl _) (.cells a.cells 38)
 have A2 := A1.alloc A1.size (.cells b.cells 38)
 have bxa0 := (EBox.new w a).later ((Below.refl (w.alloc (.cells a.cells 38)).heap.size (w.alloc (.cells a.cells 38))).alloc (Nat.le_refl _) (.cells b.cells 38))
 have bxb0 := EBox.new (w.alloc (.cells a.cells 38)) b
 rw [World.size_alloc] at bxb0
 have BXA0 : Hid (EBox _ w.heap.size a) := bxa0
 have BXB0 : Hid (EBox _ (w.heap.size + 1) b) := bxb0
 have HA : Hid (EntD.Ok w a) := ha
 have HB : Hid (EntD.Ok w b) := hb
 obtain ⟨va, hva⟩ : ∃ v, v = a.cells := ⟨_, rfl⟩
 clear A1 bxa0 bxb0 ha hb hva va
 go_enter Tryz.func22, Tryz.ntmps22
 go_wp2_with fail
 refine (order_fns _).mono ?_
 rintro e1 w1 ⟨rfl, hb1⟩
 have B1 := A2.trans (hb1.mono A2.size)
 have BXA1 := BXA0.out.later hb1
 have BXB1 := BXB0.out.later hb1
 clear A2 BXA0 BXB0 hb1
 go_wp2
 go_loopw [6, 7, 9] (fun f n i wr => ∃ t : Nat, t ≤ 8 ∧ i = .int .i64 (t : Int) ∧ (∀ j, j < t → (cmpsS a b).getD j 0 = 0) ∧ EBox wr w.heap.size a ∧ EBox wr (w.heap.size + 1) b ∧ Below w.heap.size w wr) (fun _ _ i _ => 8 - (intOf i).toNat)
 case atStart => exact ⟨0, by omega, rfl, fun j hj => by omega, BXA1, BXB1, B1⟩
 case round =>
  obtain ⟨t, ht8, rfl, hz, bxa, bxb, hb1⟩ := hrel
  have HZ : Hid (∀ j, j < t → (cmpsS a b).getD j 0 = 0) := hz
  have BXA : Hid (EBox wr w.heap.size a) := bxa
  have BXB : Hid (EBox wr (w.heap.size + 1) b) := bxb
  clear hz
  by_cases hlt : t < 8
  ·obtain ⟨S, hS⟩ : ∃ S, S = (cmpsS a b).getD t 0 := ⟨_, rfl⟩
   have HS : Hid (S = (cmpsS a b).getD t 0) := hS
   clear hS
   have ca0 := bxa.vr
   have ca1 := bxa.fam
   have ca2 := bxa.vq
   have ca3 := bxa.ts
   have ca4 := bxa.seq
   have ca5 := bxa.kind
   have ca6 := bxa.vv
   have cb0 := bxb.vr
   have cb1 := bxb.fam
   have cb2 := bxb.vq
   have cb3 := bxb.ts
   have cb4 := bxb.seq
   have cb5 := bxb.kind
   have cb6 := bxb.vv
   rcases (show t = 0 ∨ t = 1 ∨ t = 2 ∨ t = 3 ∨ t = 4 ∨ t = 5 ∨ t = 6 ∨ t = 7 by omega) with rfl | rfl | rfl | rfl | rfl | rfl | rfl | rfl
   ·have HC : Hid (∀ w2, Below w.heap.size w w2 → Calls Tryz.prog 59 #[.agg a.cells, .agg b.cells] w2 fun r w' => r = .returned (.int .i64 S) ∧ Below w2.heap.size w2 w') := fun w2 h2 => by rw [HS.out]; exact ord1_any (HA.out.later h2) (HB.out.later h2)
    have hidx : ∀ w, (Instr.index 77 (.agg #[.func (.func 59) #[] #[], .func (.func 61) #[] #[], .func (.func 63) #[] #[], .func (.func 65) #[] #[], .func (.func 66) #[] #[], .func (.func 67) #[] #[], .func (.func 68) #[] #[], .func (.func 69) #[] #[]]) (.int .i64 0)).run Tryz.prog w = .ok (.func (.func 59) #[] #[]) w := fun _ => by kernel_rfl
    by_cases hz : S = 0
    ·have HZ2 : Hid (∀ j, j < 1 → (cmpsS a b).getD j 0 = 0) := fun j hj => by
      by_cases h : j < 0
      ·exact HZ.out j h
      ·obtain rfl : j = 0 := by omega
       rw [← HS.out]; exact hz
     subst hz
     have HC2 := HC.out wr hb1
     have HC3 : Hid (Calls Tryz.prog 59 #[.agg a.cells, .agg b.cells] wr fun r w' => r = .returned (.int .i64 0) ∧ Below wr.heap.size wr w') := HC2
     clear HC HC2 HS
     simp only [EntD.cells] at bxa bxb HC3
     go_wp2_with fail
     refine HC3.out.mono ?_
     rintro e2 w2 ⟨rfl, hb2⟩
     have B2 := hb1.trans (hb2.mono hb1.size)
     have bxa2 := BXA.out.later hb2
     have bxb2 := BXB.out.later hb2
     go_wp2
     go_roundw
     case rel => exact ⟨1, by omega, by go_num, HZ2.out, bxa2, bxb2, B2⟩
     case measure => simp [intOf]
    ·have HR : Hid (compareS a b = S) := by unfold Hid compareS; rw [firstNZ_at _ 0 HZ.out (by rw [← HS.out]; exact hz), HS.out]
     have hz1 : (S != 0) = true := by simp; exact hz
     have HC2 := HC.out wr hb1
     have HC3 : Hid (Calls Tryz.prog 59 #[.agg a.cells, .agg b.cells] wr fun r w' => r = .returned (.int .i64 S) ∧ Below wr.heap.size wr w') := HC2
     clear HC HC2 HS
     simp only [EntD.cells] at bxa bxb HC3
     go_wp2_with fail
     refine HC3.out.mono ?_
     rintro e2 w2 ⟨rfl, hb2⟩
     have B2 := hb1.trans (hb2.mono hb1.size)
     go_wp2
     go_ret
     exact ⟨by rw [HR.out]; rfl, B2⟩
   ·have HC : Hid (∀ w2, Below w.heap.size w w2 → Calls Tryz.prog 61 #[.agg a.cells, .agg b.cells] w2 fun r w' => r = .returned (.int .i64 S) ∧ Below w2.heap.size w2 w') := fun w2 h2 => by rw [HS.out]; exact ord2_any (HA.out.later h2) (HB.out.later h2)
    have hidx : ∀ w, (Instr.index 77 (.agg #[.func (.func 59) #[] #[], .func (.func 61) #[] #[], .func (.func 63) #[] #[], .func (.func 65) #[] #[], .func (.func 66) #[] #[], .func (.func 67) #[] #[], .func (.func 68) #[] #[], .func (.func 69) #[] #[]]) (.int .i64 1)).run Tryz.prog w = .ok (.func (.func 61) #[] #[]) w := fun _ => by kernel_rfl
    by_cases hz : S = 0
    ·have HZ2 : Hid (∀ j, j < 2 → (cmpsS a b).getD j 0 = 0) := fun j hj => by
      by_cases h : j < 1
      ·exact HZ.out j h
      ·obtain rfl : j = 1 := by omega
       rw [← HS.out]; exact hz
     subst hz
     have HC2 := HC.out wr hb1
     have HC3 : Hid (Calls Tryz.prog 61 #[.agg a.cells, .agg b.cells] wr fun r w' => r = .returned (.int .i64 0) ∧ Below wr.heap.size wr w') := HC2
     clear HC HC2 HS
     simp only [EntD.cells] at bxa bxb HC3
     go_wp2_with fail
     refine HC3.out.mono ?_
     rintro e2 w2 ⟨rfl, hb2⟩
     have B2 := hb1.trans (hb2.mono hb1.size)
     have bxa2 := BXA.out.later hb2
     have bxb2 := BXB.out.later hb2
     go_wp2
     go_roundw
     case rel => exact ⟨2, by omega, by go_num, HZ2.out, bxa2, bxb2, B2⟩
     case measure => simp [intOf]
    ·have HR : Hid (compareS a b = S) := by unfold Hid compareS; rw [firstNZ_at _ 1 HZ.out (by rw [← HS.out]; exact hz), HS.out]
     have hz1 : (S != 0) = true := by simp; exact hz
     have HC2 := HC.out wr hb1
     have HC3 : Hid (Calls Tryz.prog 61 #[.agg a.cells, .agg b.cells] wr fun r w' => r = .returned (.int .i64 S) ∧ Below wr.heap.size wr w') := HC2
     clear HC HC2 HS
     simp only [EntD.cells] at bxa bxb HC3
     go_wp2_with fail
     refine HC3.out.mono ?_
     rintro e2 w2 ⟨rfl, hb2⟩
     have B2 := hb1.trans (hb2.mono hb1.size)
     go_wp2
     go_ret
     exact ⟨by rw [HR.out]; rfl, B2⟩
   ·have HC : Hid (∀ w2, Below w.heap.size w w2 → Calls Tryz.prog 63 #[.agg a.cells, .agg b.cells] w2 fun r w' => r = .returned (.int .i64 S) ∧ Below w2.heap.size w2 w') := fun w2 h2 => by rw [HS.out]; exact ord3_any (HA.out.later h2) (HB.out.later h2)
    have hidx : ∀ w, (Instr.index 77 (.agg #[.func (.func 59) #[] #[], .func (.func 61) #[] #[], .func (.func 63) #[] #[], .func (.func 65) #[] #[], .func (.func 66) #[] #[], .func (.func 67) #[] #[], .func (.func 68) #[] #[], .func (.func 69) #[] #[]]) (.int .i64 2)).run Tryz.prog w = .ok (.func (.func 63) #[] #[]) w := fun _ => by kernel_rfl
    by_cases hz : S = 0
    ·have HZ2 : Hid (∀ j, j < 3 → (cmpsS a b).getD j 0 = 0) := fun j hj => by
      by_cases h : j < 2
      ·exact HZ.out j h
      ·obtain rfl : j = 2 := by omega
       rw [← HS.out]; exact hz
     subst hz
     have HC2 := HC.out wr hb1
     have HC3 : Hid (Calls Tryz.prog 63 #[.agg a.cells, .agg b.cells] wr fun r w' => r = .returned (.int .i64 0) ∧ Below wr.heap.size wr w') := HC2
     clear HC HC2 HS
     simp only [EntD.cells] at bxa bxb HC3
     go_wp2_with fail
     refine HC3.out.mono ?_
     rintro e2 w2 ⟨rfl, hb2⟩
     have B2 := hb1.trans (hb2.mono hb1.size)
     have bxa2 := BXA.out.later hb2
     have bxb2 := BXB.out.later hb2
     go_wp2
     go_roundw
     case rel => exact ⟨3, by omega, by go_num, HZ2.out, bxa2, bxb2, B2⟩
     case measure => simp [intOf]
    ·have HR : Hid (compareS a b = S) := by unfold Hid compareS; rw [firstNZ_at _ 2 HZ.out (by rw [← HS.out]; exact hz), HS.out]
     have hz1 : (S != 0) = true := by simp; exact hz
     have HC2 := HC.out wr hb1
     have HC3 : Hid (Calls Tryz.prog 63 #[.agg a.cells, .agg b.cells] wr fun r w' => r = .returned (.int .i64 S) ∧ Below wr.heap.size wr w') := HC2
     clear HC HC2 HS
     simp only [EntD.cells] at bxa bxb HC3
     go_wp2_with fail
     refine HC3.out.mono ?_
     rintro e2 w2 ⟨rfl, hb2⟩
     have B2 := hb1.trans (hb2.mono hb1.size)
     go_wp2
     go_ret
     exact ⟨by rw [HR.out]; rfl, B2⟩
   ·have HC : Hid (∀ w2, Below w.heap.size w w2 → Calls Tryz.prog 65 #[.agg a.cells, .agg b.cells] w2 fun r w' => r = .returned (.int .i64 S) ∧ Below w2.heap.size w2 w') := fun w2 h2 => by rw [HS.out]; exact ord4_any (HA.out.later h2) (HB.out.later h2)
    have hidx : ∀ w, (Instr.index 77 (.agg #[.func (.func 59) #[] #[], .func (.func 61) #[] #[], .func (.func 63) #[] #[], .func (.func 65) #[] #[], .func (.func 66) #[] #[], .func (.func 67) #[] #[], .func (.func 68) #[] #[], .func (.func 69) #[] #[]]) (.int .i64 3)).run Tryz.prog w = .ok (.func (.func 65) #[] #[]) w := fun _ => by kernel_rfl
    by_cases hz : S = 0
    ·have HZ2 : Hid (∀ j, j < 4 → (cmpsS a b).getD j 0 = 0) := fun j hj => by
      by_cases h : j < 3
      ·exact HZ.out j h
      ·obtain rfl : j = 3 := by omega
       rw [← HS.out]; exact hz
     subst hz
     have HC2 := HC.out wr hb1
     have HC3 : Hid (Calls Tryz.prog 65 #[.agg a.cells, .agg b.cells] wr fun r w' => r = .returned (.int .i64 0) ∧ Below wr.heap.size wr w') := HC2
     clear HC HC2 HS
     simp only [EntD.cells] at bxa bxb HC3
     go_wp2_with fail
     refine HC3.out.mono ?_
     rintro e2 w2 ⟨rfl, hb2⟩
     have B2 := hb1.trans (hb2.mono hb1.size)
     have bxa2 := BXA.out.later hb2
     have bxb2 := BXB.out.later hb2
     go_wp2
     go_roundw
     case rel => exact ⟨4, by omega, by go_num, HZ2.out, bxa2, bxb2, B2⟩
     case measure => simp [intOf]
    ·have HR : Hid (compareS a b = S) := by unfold Hid compareS; rw [firstNZ_at _ 3 HZ.out (by rw [← HS.out]; exact hz), HS.out]
     have hz1 : (S != 0) = true := by simp; exact hz
     have HC2 := HC.out wr hb1
     have HC3 : Hid (Calls Tryz.prog 65 #[.agg a.cells, .agg b.cells] wr fun r w' => r = .returned (.int .i64 S) ∧ Below wr.heap.size wr w') := HC2
     clear HC HC2 HS
     simp only [EntD.cells] at bxa bxb HC3
     go_wp2_with fail
     refine HC3.out.mono ?_
     rintro e2 w2 ⟨rfl, hb2⟩
     have B2 := hb1.trans (hb2.mono hb1.size)
     go_wp2
     go_ret
     exact ⟨by rw [HR.out]; rfl, B2⟩
   ·have HC : Hid (∀ w2, Below w.heap.size w w2 → Calls Tryz.prog 66 #[.agg a.cells, .agg b.cells] w2 fun r w' => r = .returned (.int .i64 S) ∧ Below w2.heap.size w2 w') := fun w2 h2 => by rw [HS.out]; exact ord5_any (HA.out.later h2) (HB.out.later h2)
    have hidx : ∀ w, (Instr.index 77 (.agg #[.func (.func 59) #[] #[], .func (.func 61) #[] #[], .func (.func 63) #[] #[], .func (.func 65) #[] #[], .func (.func 66) #[] #[], .func (.func 67) #[] #[], .func (.func 68) #[] #[], .func (.func 69) #[] #[]]) (.int .i64 4)).run Tryz.prog w = .ok (.func (.func 66) #[] #[]) w := fun _ => by kernel_rfl
    by_cases hz : S = 0
    ·have HZ2 : Hid (∀ j, j < 5 → (cmpsS a b).getD j 0 = 0) := fun j hj => by
      by_cases h : j < 4
      ·exact HZ.out j h
      ·obtain rfl : j = 4 := by omega
       rw [← HS.out]; exact hz
     subst hz
     have HC2 := HC.out wr hb1
     have HC3 : Hid (Calls Tryz.prog 66 #[.agg a.cells, .agg b.cells] wr fun r w' => r = .returned (.int .i64 0) ∧ Below wr.heap.size wr w') := HC2
     clear HC HC2 HS
     simp only [EntD.cells] at bxa bxb HC3
     go_wp2_with fail
     refine HC3.out.mono ?_
     rintro e2 w2 ⟨rfl, hb2⟩
     have B2 := hb1.trans (hb2.mono hb1.size)
     have bxa2 := BXA.out.later hb2
     have bxb2 := BXB.out.later hb2
     go_wp2
     go_roundw
     case rel => exact ⟨5, by omega, by go_num, HZ2.out, bxa2, bxb2, B2⟩
     case measure => simp [intOf]
    ·have HR : Hid (compareS a b = S) := by unfold Hid compareS; rw [firstNZ_at _ 4 HZ.out (by rw [← HS.out]; exact hz), HS.out]
     have hz1 : (S != 0) = true := by simp; exact hz
     have HC2 := HC.out wr hb1
     have HC3 : Hid (Calls Tryz.prog 66 #[.agg a.cells, .agg b.cells] wr fun r w' => r = .returned (.int .i64 S) ∧ Below wr.heap.size wr w') := HC2
     clear HC HC2 HS
     simp only [EntD.cells] at bxa bxb HC3
     go_wp2_with fail
     refine HC3.out.mono ?_
     rintro e2 w2 ⟨rfl, hb2⟩
     have B2 := hb1.trans (hb2.mono hb1.size)
     go_wp2
     go_ret
     exact ⟨by rw [HR.out]; rfl, B2⟩
   ·have HC : Hid (∀ w2, Below w.heap.size w w2 → Calls Tryz.prog 67 #[.agg a.cells, .agg b.cells] w2 fun r w' => r = .returned (.int .i64 S) ∧ Below w2.heap.size w2 w') := fun w2 h2 => by rw [HS.out]; exact ord6_any (HA.out.later h2) (HB.out.later h2)
    have hidx : ∀ w, (Instr.index 77 (.agg #[.func (.func 59) #[] #[], .func (.func 61) #[] #[], .func (.func 63) #[] #[], .func (.func 65) #[] #[], .func (.func 66) #[] #[], .func (.func 67) #[] #[], .func (.func 68) #[] #[], .func (.func 69) #[] #[]]) (.int .i64 5)).run Tryz.prog w = .ok (.func (.func 67) #[] #[]) w := fun _ => by kernel_rfl
    by_cases hz : S = 0
    ·have HZ2 : Hid (∀ j, j < 6 → (cmpsS a b).getD j 0 = 0) := fun j hj => by
      by_cases h : j < 5
      ·exact HZ.out j h
      ·obtain rfl : j = 5 := by omega
       rw [← HS.out]; exact hz
     subst hz
     have HC2 := HC.out wr hb1
     have HC3 : Hid (Calls Tryz.prog 67 #[.agg a.cells, .agg b.cells] wr fun r w' => r = .returned (.int .i64 0) ∧ Below wr.heap.size wr w') := HC2
     clear HC HC2 HS
     simp only [EntD.cells] at bxa bxb HC3
     go_wp2_with fail
     refine HC3.out.mono ?_
     rintro e2 w2 ⟨rfl, hb2⟩
     have B2 := hb1.trans (hb2.mono hb1.size)
     have bxa2 := BXA.out.later hb2
     have bxb2 := BXB.out.later hb2
     go_wp2
     go_roundw
     case rel => exact ⟨6, by omega, by go_num, HZ2.out, bxa2, bxb2, B2⟩
     case measure => simp [intOf]
    ·have HR : Hid (compareS a b = S) := by unfold Hid compareS; rw [firstNZ_at _ 5 HZ.out (by rw [← HS.out]; exact hz), HS.out]
     have hz1 : (S != 0) = true := by simp; exact hz
     have HC2 := HC.out wr hb1
     have HC3 : Hid (Calls Tryz.prog 67 #[.agg a.cells, .agg b.cells] wr fun r w' => r = .returned (.int .i64 S) ∧ Below wr.heap.size wr w') := HC2
     clear HC HC2 HS
     simp only [EntD.cells] at bxa bxb HC3
     go_wp2_with fail
     refine HC3.out.mono ?_
     rintro e2 w2 ⟨rfl, hb2⟩
     have B2 := hb1.trans (hb2.mono hb1.size)
     go_wp2
     go_ret
     exact ⟨by rw [HR.out]; rfl, B2⟩
   ·have HC : Hid (∀ w2, Below w.heap.size w w2 → Calls Tryz.prog 68 #[.agg a.cells, .agg b.cells] w2 fun r w' => r = .returned (.int .i64 S) ∧ Below w2.heap.size w2 w') := fun w2 h2 => by rw [HS.out]; exact ord7_any (HA.out.later h2) (HB.out.later h2)
    have hidx : ∀ w, (Instr.index 77 (.agg #[.func (.func 59) #[] #[], .func (.func 61) #[] #[], .func (.func 63) #[] #[], .func (.func 65) #[] #[], .func (.func 66) #[] #[], .func (.func 67) #[] #[], .func (.func 68) #[] #[], .func (.func 69) #[] #[]]) (.int .i64 6)).run Tryz.prog w = .ok (.func (.func 68) #[] #[]) w := fun _ => by kernel_rfl
    by_cases hz : S = 0
    ·have HZ2 : Hid (∀ j, j < 7 → (cmpsS a b).getD j 0 = 0) := fun j hj => by
      by_cases h : j < 6
      ·exact HZ.out j h
      ·obtain rfl : j = 6 := by omega
       rw [← HS.out]; exact hz
     subst hz
     have HC2 := HC.out wr hb1
     have HC3 : Hid (Calls Tryz.prog 68 #[.agg a.cells, .agg b.cells] wr fun r w' => r = .returned (.int .i64 0) ∧ Below wr.heap.size wr w') := HC2
     clear HC HC2 HS
     simp only [EntD.cells] at bxa bxb HC3
     go_wp2_with fail
     refine HC3.out.mono ?_
     rintro e2 w2 ⟨rfl, hb2⟩
     have B2 := hb1.trans (hb2.mono hb1.size)
     have bxa2 := BXA.out.later hb2
     have bxb2 := BXB.out.later hb2
     go_wp2
     go_roundw
     case rel => exact ⟨7, by omega, by go_num, HZ2.out, bxa2, bxb2, B2⟩
     case measure => simp [intOf]
    ·have HR : Hid (compareS a b = S) := by unfold Hid compareS; rw [firstNZ_at _ 6 HZ.out (by rw [← HS.out]; exact hz), HS.out]
     have hz1 : (S != 0) = true := by simp; exact hz
     have HC2 := HC.out wr hb1
     have HC3 : Hid (Calls Tryz.prog 68 #[.agg a.cells, .agg b.cells] wr fun r w' => r = .returned (.int .i64 S) ∧ Below wr.heap.size wr w') := HC2
     clear HC HC2 HS
     simp only [EntD.cells] at bxa bxb HC3
     go_wp2_with fail
     refine HC3.out.mono ?_
     rintro e2 w2 ⟨rfl, hb2⟩
     have B2 := hb1.trans (hb2.mono hb1.size)
     go_wp2
     go_ret
     exact ⟨by rw [HR.out]; rfl, B2⟩
   ·have HC : Hid (∀ w2, Below w.heap.size w w2 → Calls Tryz.prog 69 #[.agg a.cells, .agg b.cells] w2 fun r w' => r = .returned (.int .i64 S) ∧ Below w2.heap.size w2 w') := fun w2 h2 => by rw [HS.out]; exact ord8_any (HA.out.later h2) (HB.out.later h2)
    have hidx : ∀ w, (Instr.index 77 (.agg #[.func (.func 59) #[] #[], .func (.func 61) #[] #[], .func (.func 63) #[] #[], .func (.func 65) #[] #[], .func (.func 66) #[] #[], .func (.func 67) #[] #[], .func (.func 68) #[] #[], .func (.func 69) #[] #[]]) (.int .i64 7)).run Tryz.prog w = .ok (.func (.func 69) #[] #[]) w := fun _ => by kernel_rfl
    by_cases hz : S = 0
    ·have HZ2 : Hid (∀ j, j < 8 → (cmpsS a b).getD j 0 = 0) := fun j hj => by
      by_cases h : j < 7
      ·exact HZ.out j h
      ·obtain rfl : j = 7 := by omega
       rw [← HS.out]; exact hz
     subst hz
     have HC2 := HC.out wr hb1
     have HC3 : Hid (Calls Tryz.prog 69 #[.agg a.cells, .agg b.cells] wr fun r w' => r = .returned (.int .i64 0) ∧ Below wr.heap.size wr w') := HC2
     clear HC HC2 HS
     simp only [EntD.cells] at bxa bxb HC3
     go_wp2_with fail
     refine HC3.out.mono ?_
     rintro e2 w2 ⟨rfl, hb2⟩
     have B2 := hb1.trans (hb2.mono hb1.size)
     have bxa2 := BXA.out.later hb2
     have bxb2 := BXB.out.later hb2
     go_wp2
     go_roundw
     case rel => exact ⟨8, by omega, by go_num, HZ2.out, bxa2, bxb2, B2⟩
     case measure => simp [intOf]
    ·have HR : Hid (compareS a b = S) := by unfold Hid compareS; rw [firstNZ_at _ 7 HZ.out (by rw [← HS.out]; exact hz), HS.out]
     have hz1 : (S != 0) = true := by simp; exact hz
     have HC2 := HC.out wr hb1
     have HC3 : Hid (Calls Tryz.prog 69 #[.agg a.cells, .agg b.cells] wr fun r w' => r = .returned (.int .i64 S) ∧ Below wr.heap.size wr w') := HC2
     clear HC HC2 HS
     simp only [EntD.cells] at bxa bxb HC3
     go_wp2_with fail
     refine HC3.out.mono ?_
     rintro e2 w2 ⟨rfl, hb2⟩
     have B2 := hb1.trans (hb2.mono hb1.size)
     go_wp2
     go_ret
     exact ⟨by rw [HR.out]; rfl, B2⟩
  ·have hge : (8 : Int) ≤ (t : Int) := by omega
   have HR : Hid (compareS a b = 0) := by unfold Hid compareS; exact firstNZ_none _ (fun j hj => HZ.out j (by have : (cmpsS a b).length = 8 := rfl; omega))
   clear hlt
   go_wp2
   go_ret
   exact ⟨by rw [HR.out]; rfl, hb1⟩

end Go.Proofs.YtpabbnddeklpdaaGreat

namespace Go.Proofs.YtpabbnddeklpdaaGreat
open Go.RowKit
set_option linter.unusedVariables false

structure Apart (g : Nat) (w w' : World) : Prop where
 os : w'.os = w.os
 tape : w'.tape = w.tape
 output : w'.output = w.output
 size : w.heap.size ≤ w'.heap.size
 block : ∀ k, k < w.heap.size → k ≠ g → w'.heap[k]? = w.heap[k]?
theorem Apart.refl (g : Nat) (w : World) : Apart g w w := ⟨rfl, rfl, rfl, Nat.le_refl _, fun _ _ _ => rfl⟩
theorem Apart.trans {g : Nat} {a b c : World} (h : Apart g a b) (k : Apart g b c) : Apart g a c :=
 ⟨k.os.trans h.os, k.tape.trans h.tape, k.output.trans h.output, Nat.le_trans h.size k.size, fun i hi hg => (k.block i (Nat.lt_of_lt_of_le hi h.size) hg).trans (h.block i hi hg)⟩
theorem Apart.of {g : Nat} {w w' : World} (h : Below w.heap.size w w') : Apart g w w' := ⟨h.os, h.tape, h.output, h.size, fun k hk _ => h.block k hk⟩
theorem Apart.below {g B : Nat} {w w' : World} (h : Apart g w w') (hg : B ≤ g) (hB : B ≤ w.heap.size) : Below B w w' :=
 ⟨h.os, h.tape, h.output, h.size, fun k hk => h.block k (by omega) (by omega)⟩

def rcells (v : Value) (k : Int) (bad : Bool) : Array Value := #[v, .int .i64 k, .bool bad]
theorem apart_set (w : World) (g i : Nat) (x : Value) : Apart g w (w.setCell ⟨g, i, none⟩ x) := by
 refine ⟨rfl, rfl, rfl, by simp [World.setCell], fun k hk hg => ?_⟩
 simp [World.setCell, Array.getElem?_modify, Ne.symm hg]
def oneR (bs : List Nat) (k : Nat) : Nat × Nat × Bool := if k = bs.length then (0, k, true) else (bs.getD k 0, k + 1, false)
theorem oneR_end (bs : List Nat) : oneR bs bs.length = (0, bs.length, true) := by simp [oneR]
theorem oneR_in (bs : List Nat) (k : Nat) (h : k < bs.length) : oneR bs k = (bs.getD k 0, k + 1, false) := by simp [oneR]; omega
end Go.Proofs.YtpabbnddeklpdaaGreat

namespace Go.Proofs.YtpabbnddeklpdaaGreat
open Go.RowKit
set_option linter.unusedVariables false
theorem EBox.fz {w : World} {g : Nat} {e : EntD} (h : EBox w g e) (i : Nat) : w.frozen? ⟨g, i, none⟩ = false := by unfold EBox at h; simp [World.frozen?, h]
theorem EBox.apart {w w' : World} {g ge : Nat} {e : EntD} (h : EBox w ge e) (hw : Apart g w w') (hne : ge ≠ g) : EBox w' ge e := by
 unfold EBox at *
 rw [hw.block ge (Array.getElem?_eq_some_iff.1 h).1 hne]; exact h
theorem EBox.set0 {w : World} {g : Nat} {e : EntD} (h : EBox w g e) (x : Value) (l : List Nat) : EBox (w.setCell ⟨g, 0, none⟩ x) g { e with vr := x, row := l } := by
 unfold EBox EntD.cells at *; simp [World.setCell, Array.getElem?_modify, h]
theorem EBox.set1 {w : World} {g : Nat} {e : EntD} (h : EBox w g e) (x : Int) : EBox (w.setCell ⟨g, 1, none⟩ (.int .i64 x)) g { e with fam := x } := by
 unfold EBox EntD.cells at *; simp [World.setCell, Array.getElem?_modify, h]
theorem EBox.set2 {w : World} {g : Nat} {e : EntD} (h : EBox w g e) (x : Value) (l : List Nat) : EBox (w.setCell ⟨g, 2, none⟩ x) g { e with vq := x, qual := l } := by
 unfold EBox EntD.cells at *; simp [World.setCell, Array.getElem?_modify, h]
theorem EBox.set3 {w : World} {g : Nat} {e : EntD} (h : EBox w g e) (x : Int) : EBox (w.setCell ⟨g, 3, none⟩ (.int .i64 x)) g { e with ts := x } := by
 unfold EBox EntD.cells at *; simp [World.setCell, Array.getElem?_modify, h]
theorem EBox.set4 {w : World} {g : Nat} {e : EntD} (h : EBox w g e) (x : Int) : EBox (w.setCell ⟨g, 4, none⟩ (.int .i64 x)) g { e with seq := x } := by
 unfold EBox EntD.cells at *; simp [World.setCell, Array.getElem?_modify, h]
theorem EBox.set5 {w : World} {g : Nat} {e : EntD} (h : EBox w g e) (x : Int) : EBox (w.setCell ⟨g, 5, none⟩ (.int .i64 x)) g { e with kind := x } := by
 unfold EBox EntD.cells at *; simp [World.setCell, Array.getElem?_modify, h]
theorem EBox.set6 {w : World} {g : Nat} {e : EntD} (h : EBox w g e) (x : Value) (l : List Nat) : EBox (w.setCell ⟨g, 6, none⟩ x) g { e with vv := x, val := l } := by
 unfold EBox EntD.cells at *; simp [World.setCell, Array.getElem?_modify, h]
def filled (w : World) (g : Nat) (e : EntD) : World :=
 ((((((w.setCell ⟨g, 0, none⟩ e.vr).setCell ⟨g, 1, none⟩ (.int .i64 e.fam)).setCell ⟨g, 2, none⟩ e.vq).setCell ⟨g, 3, none⟩ (.int .i64 e.ts)).setCell ⟨g, 4, none⟩ (.int .i64 e.seq)).setCell ⟨g, 5, none⟩ (.int .i64 e.kind)).setCell ⟨g, 6, none⟩ e.vv
theorem filled_box {w : World} {g : Nat} {d : EntD} (h : EBox w g d) (e : EntD) : EBox (filled w g e) g e :=
 (((((((h.set0 e.vr e.row).set1 e.fam).set2 e.vq e.qual).set3 e.ts).set4 e.seq).set5 e.kind).set6 e.vv e.val)
theorem filled_apart (w : World) (g : Nat) (e : EntD) : Apart g w (filled w g e) :=
 ((((((apart_set _ _ _ _).trans (apart_set _ _ _ _)).trans (apart_set _ _ _ _)).trans (apart_set _ _ _ _)).trans (apart_set _ _ _ _)).trans (apart_set _ _ _ _)).trans (apart_set _ _ _ _)
theorem Own.apartE {w w' : World} {g B m0 : Nat} {v : Value} {e : EntD} {xs : List Nat} (h : Own w B v m0 xs) (hr : EBox w g e) (hw : Apart g w w') : Own w' B v m0 xs := by
 refine ⟨h.1, h.2.1, ?_⟩
 rcases h.2.2 with h2 | ⟨g2, cap, cur, h3, h4, h5, h6⟩
 ·exact .inl h2
 ·refine .inr ⟨g2, cap, cur, h3, h4, ?_, h6⟩
  rw [hw.block g2 (Array.getElem?_eq_some_iff.1 h5).1 ?_]
  ·exact h5
  ·rintro rfl
   unfold EBox at hr
   rw [h5] at hr
   have := Option.some.inj hr
   injection this with _ e
   exact absurd e (by decide)

theorem Apart.out {g ge : Nat} {w wx wy : World} (h : Apart g w wx) (k : Apart ge wx wy) (hg : w.heap.size ≤ ge) : Apart g w wy :=
 ⟨k.os.trans h.os, k.tape.trans h.tape, k.output.trans h.output, Nat.le_trans h.size k.size, fun i hi hn => (k.block i (Nat.lt_of_lt_of_le hi h.size) (by omega)).trans (h.block i hi hn)⟩
theorem rord_le (l acc : List Nat) (i : Nat) : (rord l acc i).2.1 ≤ i + l.length := by
 fun_induction rord l acc i <;> simp_all <;> omega
theorem ordR_le (bs : List Nat) (k : Nat) (h : k ≤ bs.length) : (ordR bs k).2.1 ≤ bs.length := by
 have := rord_le (bs.drop k) [] 0
 simp only [List.length_drop] at this
 simp only [ordR]
 split <;> omega
theorem fallR_le (bs : List Nat) (k : Nat) (h : k ≤ bs.length) : (fallR bs k).2.1 ≤ bs.length := by
 unfold fallR riseR
 split <;> simp
 split <;> simp
 omega
theorem oneR_le (bs : List Nat) (k : Nat) (h : k ≤ bs.length) : (oneR bs k).2.1 ≤ bs.length := by
 unfold oneR
 split <;> simp <;> omega
theorem oneR_lt (bs : List Nat) (k : Nat) (h : Bys bs) : (oneR bs k).1 < 256 := by
 unfold oneR
 split
 ·simp
 ·exact h.get k

theorem own_len {w : World} {B m : Nat} {v : Value} {xs : List Nat} (h : Own w B v m xs) : Own w B v xs.length xs := by
 have e := h.1
 subst e
 exact h

end Go.Proofs.YtpabbnddeklpdaaGreat

namespace Go.Proofs.YtpabbnddeklpdaaGreat
open Go.RowKit
set_option linter.unusedVariables false

theorem own_nil (w : World) (B : Nat) : Own w B (.slice none 0 0) ([] : List Nat).length [] := ⟨rfl, rfl, .inl ⟨rfl, rfl⟩⟩

end Go.Proofs.YtpabbnddeklpdaaGreat

namespace Go.Proofs.YtpabbnddeklpdaaGreat
open Go.RowKit
set_option linter.unusedVariables false
set_option maxRecDepth 100000 in
set_option maxHeartbeats 1000000 in
theorem refOrdered_any {v : Value} {bs : List Nat} {w : World} (hr : Rd w v bs) (hl : (ordL bs).length ≤ 140737488355328) :
  Calls Tryz.prog 74 #[v] w fun e w' => ∃ a m c, e = .returned (.slice a m c) ∧ Own w' w.heap.size (.slice a m c) m (ordL bs) ∧ Below w.heap.size w w' := by
 obtain ⟨a, n, cap, rfl⟩ := rd_slice hr
 obtain ⟨hn, hle, hm, hl48⟩ := rd_lens hr
 have HN : Hid (n = bs.length) := hn
 have hol := ordL_len bs
 rw [← hn] at hol
 obtain ⟨C, hC⟩ : ∃ C, C = bs.count 0 := ⟨_, rfl⟩
 rw [← hC] at hol
 have hsum : n + C + 2 ≤ 140737488355328 := by omega
 have HOL : Hid ((ordL bs).length = n + C + 2) := hol
 clear hn hC hm hol hl
 go_enter Tryz.func74, Tryz.ntmps74
 go_wp2
 go_loopw [3, 4] (fun s i wr => ∃ t a m c, t ≤ n ∧ i = .int .i64 ((t : Nat) : Int) ∧ s = .slice a m c ∧ Own wr w.heap.size (.slice a m c) m (escL (bs.take t)) ∧ Below w.heap.size w wr) (fun _ i _ => n - (intOf i).toNat)
 case atStart => exact ⟨0, _, _, _, Nat.zero_le _, rfl, rfl, ⟨rfl, World.ownsRow_nil _ _ _ _⟩, Below.refl _ _⟩
 case round =>
  obtain ⟨t, a1, m1, c1, htl, rfl, rfl, own1, hb1⟩ := hrel
  have hs1 := hb1.size
  have hme := escL_le bs t
  have hm1 : m1 ≤ n + C := by
   rw [own1.1]
   have := HOL.out
   unfold ordL at this
   rw [List.length_append] at this
   simp at this
   omega
  clear hme
  by_cases hlt : t < n
  ·have hlt2 : (t : Int) < (n : Int) := by omega
   rcases rd_some hr with ⟨_, h0, _⟩ | ⟨b, off, rfl⟩
   ·omega
   obtain ⟨hcell0, hcl⟩ := rd_cell hr t hlt
   have hcell : wr.cell? ⟨b, off + t, none⟩ = some (.int .u8 ((bs.getD t 0 : Nat) : Int)) := by
    rw [hb1.cell (p := ⟨b, off + t, none⟩) (World.block_lt_of_cell? w _ hcell0)]; exact hcell0
   have htk := take_succ_getD bs t (by rw [← HN.out]; exact hlt)
   obtain ⟨c, hcd⟩ : ∃ c, c = bs.getD t 0 := ⟨_, rfl⟩
   rw [← hcd] at hcell hcl htk
   have hbc := World.block_lt_of_cell? wr _ hcell
   have HTK : Hid (bs.take (t + 1) = bs.take t ++ [c]) := htk
   clear hcd htk
   by_cases hc0 : c = 0
   ·subst hc0
    have HE : Hid (escL (bs.take (t + 1)) = (escL (bs.take t) ++ [0]) ++ [255]) := by
     unfold Hid; rw [HTK.out, escL_append]; simp [escL]
    go_wp2_with (first
     | (at_builtin; refine wpList_append_new rfl (.tmp 11) _ rfl w.heap.size a1 m1 c1 _ rfl own1 [_] 1 rfl [0] rfl rfl (by omega) hs1 ?_; intro a3 m3 c3 w3 own3 hb3; have hcell3 : w3.cell? ⟨b, off + t, none⟩ = some (.int .u8 ((0 : Nat) : Int)) := by (rw [(hb1.trans hb3).cell (p := ⟨b, off + t, none⟩) (World.block_lt_of_cell? w _ hcell0), ← hb1.cell (p := ⟨b, off + t, none⟩) (World.block_lt_of_cell? w _ hcell0)]; exact hcell))
     | (at_builtin; refine wpList_append_new rfl (.tmp 23) _ rfl w.heap.size a3 m3 c3 _ rfl own3 [_] 1 rfl [255] rfl rfl (own_room own3 hm1 hsum own1.1) (hb1.trans hb3).size ?_; intro a4 m4 c4 w4 own4 hb4))
    go_roundw
    case rel => exact ⟨t + 1, a4, m4, c4, by omega, by go_num, rfl, by rw [HE.out]; exact own4, (hb1.trans hb3).trans hb4⟩
    case measure => simp [intOf]; omega
   ·have HE : Hid (escL (bs.take (t + 1)) = escL (bs.take t) ++ [c]) := by
     unfold Hid; rw [HTK.out, escL_append]; simp [escL, hc0]
    have hcb : ((c : Int) == 0) = false := by simp; omega
    clear hc0
    go_wp2_with (at_builtin; refine wpList_append_new rfl (.tmp 11) _ rfl w.heap.size a1 m1 c1 _ rfl own1 [_] 1 rfl [c] rfl rfl (by omega) hs1 ?_; intro a3 m3 c3 w3 own3 hb3; have hcell3 : w3.cell? ⟨b, off + t, none⟩ = some (.int .u8 ((c : Nat) : Int)) := by (rw [(hb1.trans hb3).cell (p := ⟨b, off + t, none⟩) (World.block_lt_of_cell? w _ hcell0), ← hb1.cell (p := ⟨b, off + t, none⟩) (World.block_lt_of_cell? w _ hcell0)]; exact hcell))
    go_roundw
    case rel => exact ⟨t + 1, a3, m3, c3, by omega, by go_num, rfl, by rw [HE.out]; exact own3, hb1.trans hb3⟩
    case measure => simp [intOf]; omega
  ·have hge : (n : Int) ≤ (t : Int) := by omega
   have HE : Hid (escL (bs.take t) = escL bs) := by unfold Hid; rw [List.take_of_length_le (by rw [← HN.out]; omega)]
   go_wp2_with (at_builtin; refine wpList_append_new rfl (.tmp 26) _ rfl w.heap.size a1 m1 c1 _ rfl own1 [_, _] 2 rfl [0, 1] rfl rfl (by omega) hs1 ?_; intro a3 m3 c3 w3 own3 hb3)
   go_ret
   refine ⟨a3, m3, c3, rfl, ?_, hb1.trans hb3⟩
   unfold ordL
   rw [← HE.out]
   exact own3

theorem rord_step (c : Nat) (r acc : List Nat) (i : Nat) (hc : c ≠ 0) : rord (c :: r) acc i = rord r (acc ++ [c]) (i + 1) := by
 cases r with
 | nil => rfl
 | cons d r => rw [rord, if_pos hc]
theorem rord_nil (acc : List Nat) (i : Nat) : rord [] acc i = ([], 0, 10) := by rw [rord]
theorem rord_zero (d : Nat) (r acc : List Nat) (i : Nat) : rord (0 :: d :: r) acc i = if d = 1 then (acc, i + 2, 0) else if d = 255 then rord r (acc ++ [0]) (i + 2) else ([], 0, 11) := by
 conv => lhs; rw [rord]
 exact if_neg (by simp)

end Go.Proofs.YtpabbnddeklpdaaGreat

namespace Go.Proofs.YtpabbnddeklpdaaGreat
open Go.RowKit
set_option linter.unusedVariables false

theorem uintF_len (f v : Nat) : 1 ≤ (uintF f v).length ∧ (uintF f v).length ≤ f + 1 := by
 induction f generalizing v with
 | zero => simp [uintF]
 | succ f ih =>
  unfold uintF
  split
  ·have := ih (v / 128); simp; omega
  ·simp
theorem uintL_len (v : Nat) : 1 ≤ (uintL v).length ∧ (uintL v).length ≤ 10 := uintF_len 9 v
theorem uintF_bys (f v : Nat) (h : v < 128 ^ (f + 1)) : Bys (uintF f v) := by
 induction f generalizing v with
 | zero => intro x hx; simp [uintF] at hx; simp at h; omega
 | succ f ih =>
  unfold uintF
  split
  ·intro x hx
   simp only [List.mem_cons] at hx
   rcases hx with rfl | hx
   ·omega
   ·exact ih (v / 128) (by rw [Nat.pow_succ] at h; exact Nat.div_lt_of_lt_mul (by rw [Nat.mul_comm]; exact h)) x hx
  ·intro x hx; simp at hx; omega
theorem uintL_bys (v : Nat) (h : v < 18446744073709551616) : Bys (uintL v) := uintF_bys 9 v (Nat.lt_of_lt_of_le h (by decide))

def bytesL (bs : List Nat) : List Nat := uintL bs.length ++ bs

theorem own_le10 {w : World} {B : Nat} {v : Value} {m n k : Nat} (h : Own w B v m ([] ++ uintL k)) (hl : n ≤ 140737488355312) : m + n ≤ 140737488355328 := by
 have h1 := h.1
 have h2 := uintL_len k
 rw [List.nil_append] at h1
 omega

set_option maxRecDepth 100000 in
set_option maxHeartbeats 1000000 in
theorem bytes_any {v : Value} {bs : List Nat} {w : World} (hr : Rd w v bs) (hl : bs.length ≤ 140737488355312) :
  Calls Tryz.prog 55 #[v] w fun e w' => ∃ a m c, e = .returned (.slice a m c) ∧ Own w' w.heap.size (.slice a m c) m (bytesL bs) ∧ Below w.heap.size w w' := by
 obtain ⟨i0, hi, hz0, hz1, hz2⟩ := info_parts info_byte
 obtain ⟨a, n, cap, rfl⟩ := rd_slice hr
 obtain ⟨hn, hle, hm, hl48⟩ := rd_lens hr
 rw [← hn] at hl
 have HN : Hid (n = bs.length) := hn
 clear hn hm
 have hem : (n : Int) % 18446744073709551616 = (n : Int) := by omega
 go_enter Tryz.func55, Tryz.ntmps55
 go_wp2_with fail
 refine (uint_at _ n rfl (by omega) _ rfl).mono ?_
 rintro e w1 ⟨a1, m1, c1, rfl, own1, hb1⟩
 have hl1 := uintL_len n
 rw [← own1.1] at hl1
 have r1 := own1.rd (uintL_bys n (by omega)) (by omega)
 have hs1 := hb1.size
 clear own1
 go_wp2_with (at_make; refine wpList_make_own _ rfl _ _ 34 rfl w.heap.size 5 i0 (.int .u8 0) 1 und_bytes hi hz0 hz1 .i64 .i64 _ (m1 + n) rfl rfl ?c0 ?c1 ?c2 ?c3 ?_)
 case c0 => omega
 case c1 => rw [hz2]; omega
 case c2 => unfold maxLen; omega
 case c3 => omega
 intro w2 hown2 hg2
 have hb2 : Below w1.heap.size w1 w2 := (Below.refl _ w1).grown hg2 (Nat.le_refl _) (fun k hk => by simp at hk)
 have hb2' := hb1.trans (hb2.mono hs1)
 have own2 : Own w2 w.heap.size (.slice (some ⟨w1.heap.size, 0, none⟩) 0 (m1 + n)) 0 [] := ⟨rfl, hown2⟩
 have r2 := r1.later hb2
 have hs2 := hb2'.size
 clear hg2 hb2 hown2 r1
 go_wp2_with (first
  | (at_builtin; refine wpList_append_at rfl (.tmp 15) _ rfl w.heap.size _ _ _ _ rfl own2 _ _ _ _ rfl r2 (by omega) hs2 ?_; intro a5 m5 c5 w5 own5 hb5)
  | (at_builtin; refine wpList_append_at rfl (.tmp 18) _ rfl w.heap.size _ _ _ _ rfl own5 _ _ _ _ rfl (hr.later (hb2'.trans hb5)) (own_le10 own5 hl) (hb2'.trans hb5).size ?_; intro a6 m6 c6 w6 own6 hb6))
 go_ret
 refine ⟨a6, m6, c6, rfl, ?_, (hb2'.trans hb5).trans hb6⟩
 have e := HN.out
 subst e
 simpa [bytesL] using own6

theorem ruint_ok : ∀ (f : Nat) (l : List Nat) (i v V c : Nat), ruint f l i v = (V, c, 0) → i + f = 9 → v < 128 ^ i → i < c ∧ c ≤ i + l.length ∧ V < 18446744073709551616 := by
 intro f
 induction f with
 | zero =>
  intro l i v V c h hi hv
  cases l with
  | nil => simp [ruint] at h
  | cons x r =>
   unfold ruint at h
   split at h
   ·simp at h
   ·split at h
    ·simp at h
    ·split at h
     ·simp at h
     ·rename_i h1 h2 h3
      simp only [Prod.mk.injEq, and_true] at h
      obtain ⟨rfl, rfl⟩ := h
      refine ⟨by omega, by simp, ?_⟩
      have hi9 : i = 9 := by omega
      subst hi9
      have hx : x ≤ 1 := by
       by_cases hx : 1 < x
       ·exact absurd ⟨rfl, hx⟩ h1
       ·omega
      have : x % 128 * 128 ^ 9 ≤ 1 * 128 ^ 9 := Nat.mul_le_mul_right _ (by omega)
      have e : (128 : Nat) ^ 9 = 9223372036854775808 := by decide
      rw [e] at this hv ⊢
      omega
 | succ f ih =>
  intro l i v V c h hi hv
  cases l with
  | nil => simp [ruint] at h
  | cons x r =>
   unfold ruint at h
   split at h
   ·simp at h
   ·split at h
    ·have := ih r (i + 1) _ V c h (by omega) (next_lt v x i hv)
     simp only [List.length_cons]
     omega
    ·split at h
     ·simp at h
     ·rename_i h1 h2 h3
      simp only [Prod.mk.injEq, and_true] at h
      obtain ⟨rfl, rfl⟩ := h
      refine ⟨by omega, by simp, ?_⟩
      have h8 : 128 ^ (i + 1) ≤ 128 ^ 9 := Nat.pow_le_pow_right (by omega) (by omega)
      have e : (128 : Nat) ^ 9 = 9223372036854775808 := by decide
      have := next_lt v x i hv
      rw [e] at h8
      omega
theorem uintR_ok {bs : List Nat} {k V P : Nat} (h : uintR bs k = (V, P, 0)) (hk : k ≤ bs.length) : k < P ∧ P ≤ bs.length ∧ V < 18446744073709551616 := by
 unfold uintR at h
 simp only [Prod.mk.injEq] at h
 obtain ⟨h1, h2, h3⟩ := h
 rw [if_pos h3] at h2
 have := ruint_ok 9 (bs.drop k) 0 0 V (ruint 9 (bs.drop k) 0 0).2.1 (Prod.ext h1 (Prod.ext rfl h3)) rfl (by simp)
 rw [List.length_drop] at this
 omega
theorem ruint_err : ∀ (f : Nat) (l : List Nat) (i v : Nat), (ruint f l i v).2.2 ≠ 0 → (ruint f l i v).1 = 0 := by
 intro f
 induction f with
 | zero =>
  intro l i v h
  cases l with
  | nil => rfl
  | cons x r =>
   unfold ruint at h ⊢
   split
   ·rfl
   ·split
    ·rfl
    ·split
     ·rfl
     ·rename_i h1 h2 h3; simp [h1, h2, h3] at h
 | succ f ih =>
  intro l i v h
  cases l with
  | nil => rfl
  | cons x r =>
   unfold ruint at h ⊢
   split
   ·rfl
   ·split
    ·rename_i h1 h2; rw [if_neg h1, if_pos h2] at h; exact ih _ _ _ h
    ·split
     ·rfl
     ·rename_i h1 h2 h3; simp [h1, h2, h3] at h
theorem ruint_e : ∀ (f : Nat) (l : List Nat) (i v : Nat), (ruint f l i v).2.2 ≤ 13 := by
 intro f
 induction f with
 | zero =>
  intro l i v
  cases l with
  | nil => simp [ruint]
  | cons x r =>
   unfold ruint
   split
   ·simp
   ·split
    ·simp
    ·split <;> simp
 | succ f ih =>
  intro l i v
  cases l with
  | nil => simp [ruint]
  | cons x r =>
   unfold ruint
   split
   ·simp
   ·split
    ·exact ih _ _ _
    ·split <;> simp

def bytesR (bs : List Nat) (k most : Nat) : List Nat × Nat × Nat :=
 if (uintR bs k).2.2 ≠ 0 then ([], 0, (uintR bs k).2.2)
 else if most < (uintR bs k).1 then ([], 0, 13)
 else if bs.length < (uintR bs k).2.1 + (uintR bs k).1 then ([], 0, 10)
 else ((bs.drop (uintR bs k).2.1).take (uintR bs k).1, (uintR bs k).2.1 + (uintR bs k).1, 0)

end Go.Proofs.YtpabbnddeklpdaaGreat
