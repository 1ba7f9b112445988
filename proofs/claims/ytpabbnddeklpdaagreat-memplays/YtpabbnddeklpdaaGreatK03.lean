import Derived.Test.YtpabbnddeklpdaaGreatK02
import Derived.Lib.SmallJoins
import Derived.Lib.Hide
namespace Go.Proofs.YtpabbnddeklpdaaGreat
open Go.RowKit
set_option linter.unusedVariables false

set_option maxRecDepth 100000 in
set_option maxHeartbeats 1000000 in
theorem refUint_any (v : Nat) (hv : v < 18446744073709551616) (w : World) :
  Calls Tryz.prog 73 #[.int .u64 (v : Int)] w fun e w' => ∃ a m c, e = .returned (.slice a m c) ∧ Own w' w.heap.size (.slice a m c) m (uintL v) ∧ Below w.heap.size w w' := by
 go_enter Tryz.func73, Tryz.ntmps73
 go_wp2
 go_loopw [0, 3] (fun x s wr => ∃ (u f : Nat) (acc : List Nat) (a : Option Addr) (m c : Nat), x = .int .u64 (u : Int) ∧ u < 128 ^ (f + 1) ∧ u < 18446744073709551616 ∧ acc.length + f = 9 ∧ uintL v = acc ++ uintF f u ∧ s = .slice a m c ∧ Own wr w.heap.size (.slice a m c) m acc ∧ m ≤ 9 ∧ Below w.heap.size w wr)
  (fun x _ _ => (intOf x).toNat)
 case atStart => exact ⟨v, 9, [], _, _, _, rfl, by omega, hv, rfl, rfl, rfl, ⟨rfl, World.ownsRow_nil _ _ _ _⟩, by omega, Below.refl _ _⟩
 case round =>
  obtain ⟨u, f, acc, a1, m1, c1, rfl, hu, hu2, hacc, hl, rfl, own1, hm9, hb⟩ := hrel
  have HL : Hid (uintL v = acc ++ uintF f u) := hl
  have HU : Hid (u < 128 ^ (f + 1)) := hu
  have HA : Hid (acc.length + f = 9) := hacc
  clear hl hu hacc
  have hbs := hb.size
  by_cases hgt : 127 < u
  ·have hgt2 : (127 : Int) < (u : Int) := by omega
   obtain ⟨f', hf'⟩ : ∃ f', f = f' + 1 := ⟨f - 1, by
    have h1 : f ≠ 0 := by
     intro h0
     have := HU.out
     rw [h0] at this
     omega
    omega⟩
   have HF : Hid (f = f' + 1) := hf'
   clear hf'
   go_wp2_with (at_builtin; refine wpList_append_new rfl (.tmp 6) _ rfl w.heap.size a1 m1 c1 _ rfl own1 [_] 1 rfl [u % 128 + 128] (by first | rfl | (simp [bv]; done) | (simp [bv]; omega)) rfl (by omega) hbs ?_; intro a3 m3 c3 w3 own3 hb3)
   go_roundw
   case rel =>
    refine ⟨u / 128, f', acc ++ [u % 128 + 128], a3, m3, c3, by go_num, ?_, by omega, by have := HA.out; have := HF.out; simp; omega, ?_, rfl, own3, by have := HA.out; have := HF.out; rw [own3.1]; simp; omega, hb.trans hb3⟩
    ·have := HU.out
     rw [HF.out, Nat.pow_succ] at this
     exact Nat.div_lt_of_lt_mul (by rw [Nat.mul_comm]; exact this)
    ·rw [HL.out, HF.out, uintF_go f' u hgt]; simp
   case measure => simp [intOf]; omega
  ·have hgt2 : (u : Int) ≤ 127 := by omega
   go_wp2_with (at_builtin; refine wpList_append_new rfl (.tmp 15) _ rfl w.heap.size a1 m1 c1 _ rfl own1 [_] 1 rfl [u] (by first | rfl | (simp [bv]; done) | (simp [bv]; omega)) rfl (by omega) hbs ?_; intro a3 m3 c3 w3 own3 hb3)
   go_ret
   refine ⟨a3, m3, c3, rfl, ?_, hb.trans hb3⟩
   rw [HL.out, uintF_stop f u (by omega)]
   exact own3

set_option maxRecDepth 100000 in
set_option maxHeartbeats 1000000 in
theorem refBytes_any {v : Value} {bs : List Nat} {w : World} (hr : Rd w v bs) (hl : bs.length ≤ 140737488355312) :
  Calls Tryz.prog 52 #[v] w fun e w' => ∃ a m c, e = .returned (.slice a m c) ∧ Own w' w.heap.size (.slice a m c) m (bytesL bs) ∧ Below w.heap.size w w' := by
 obtain ⟨a, n, cap, rfl⟩ := rd_slice hr
 obtain ⟨hn, hle, hm, hl48⟩ := rd_lens hr
 rw [← hn] at hl
 have HN : Hid (n = bs.length) := hn
 clear hn
 have hn64 : n < 18446744073709551616 := by omega
 have hem : (n : Int) % 18446744073709551616 = (n : Int) := by omega
 have HU : ∀ m : Nat, m = (uintL n).length → m ≤ 10 := fun m h => by have := (uintL_len n).2; omega
 go_enter Tryz.func52, Tryz.ntmps52
 go_wp2_with fail
 refine (refUint_any n hn64 _).mono ?_
 rintro e w1 ⟨a1, m1, c1, rfl, own1, hb1⟩
 go_wp2_with (at_builtin; refine wpList_append_at rfl _ _ rfl w.heap.size a1 m1 c1 _ rfl own1 a n cap bs rfl (hr.later hb1) (by have := HU m1 own1.1; omega) hb1.size ?_; intro a5 m5 c5 w5 own5 hb5)
 go_ret
 refine ⟨a5, m5, c5, rfl, ?_, hb1.trans hb5⟩
 unfold bytesL
 rw [← HN.out]
 exact own5

theorem pow_le9 (i : Nat) (hi : i ≤ 9) : 128 ^ i ≤ 9223372036854775808 := Nat.le_trans (Nat.pow_le_pow_right (by omega) hi) (by decide)
theorem sum_lt (q c i : Nat) (hi : i ≤ 9) (hq : q < 128 ^ i) (h9 : i = 9 → c ≤ 1) : q + c % 128 * 128 ^ i < 18446744073709551616 := by
 by_cases h : i = 9
 ·subst h
  have := h9 rfl
  have e : (128 : Nat) ^ 9 = 9223372036854775808 := by decide
  rw [e] at hq ⊢
  have : c % 128 ≤ 1 := by omega
  omega
 ·have h1 := next_lt q c i hq
  have h2 := pow_le9 (i + 1) (by omega)
  omega
theorem wrapV (q c i U : Nat) (hi : i ≤ 9) (hU : U = 128 ^ i) (hq : q < 128 ^ i) (h9 : i = 9 → c ≤ 1) : IntKind.u64.wrap ((q : Int) + IntKind.u64.wrap ((U : Int) * ((c : Int) % 128))) = ((q + c % 128 * 128 ^ i : Nat) : Int) := by
 have e1 : (U : Int) * ((c : Int) % 128) = ((c % 128 * 128 ^ i : Nat) : Int) := by
  rw [hU, Int.natCast_mul, Int.mul_comm]; simp
 have h1 := shl_lt c i hi h9
 have h2 := sum_lt q c i hi hq h9
 rw [e1, IntKind.wrap_u64, IntKind.wrap_u64]
 omega
theorem wrapU (i U : Nat) (hi : i ≤ 8) (hU : U = 128 ^ i) : IntKind.u64.wrap ((U : Int) * 128) = ((128 ^ (i + 1) : Nat) : Int) := by
 have h := pow_le9 (i + 1) (by omega)
 have e : (U : Int) * 128 = ((128 ^ (i + 1) : Nat) : Int) := by rw [hU, Nat.pow_succ, Int.natCast_mul]; simp
 rw [e, IntKind.wrap_u64]
 omega
end Go.Proofs.YtpabbnddeklpdaaGreat

namespace Go.Proofs.YtpabbnddeklpdaaGreat
open Go.RowKit
set_option linter.unusedVariables false

theorem heap_new (w : World) (o : Obj) : (w.alloc o).heap[w.heap.size]? = some o := by
 show (w.heap.push o)[w.heap.size]? = some o
 simp

theorem own_one (w : World) (B x : Nat) (hB : B ≤ w.heap.size) : Own (w.alloc (.cells #[.int .u8 (x : Int)] 5)) B (.slice (some ⟨w.heap.size, 0, none⟩) 1 1) 1 [x] := by
 refine ⟨rfl, rfl, .inr ⟨w.heap.size, 1, #[.int .u8 (x : Int)], rfl, hB, heap_new w _, Nat.le_refl _, by decide, rfl, rfl⟩⟩

end Go.Proofs.YtpabbnddeklpdaaGreat

namespace Go.Proofs.YtpabbnddeklpdaaGreat
open Go.RowKit
set_option linter.unusedVariables false
theorem own_one' (w : World) (B x : Nat) (z : Int) (hz : z = (x : Int)) (hB : B ≤ w.heap.size) : Own (w.alloc (.cells #[.int .u8 z] 5)) B (.slice (some ⟨w.heap.size, 0, none⟩) 1 1) 1 [x] := by
 subst hz; exact own_one w B x hB
theorem be8_step (V t : Nat) (h : t < 8) : (be8 V).drop (8 - (t + 1)) = [V / 256 ^ t % 256] ++ (be8 V).drop (8 - t) := by
 have hl : (be8 V).length = 8 := rfl
 rw [drop_cons' (be8 V) (8 - (t + 1)) (by rw [hl]; omega), be8_get V _ (by omega), show 8 - (t + 1) + 1 = 8 - t by omega, show 7 - (8 - (t + 1)) = t by omega, Nat.pow_mul]
 rfl

set_option maxRecDepth 100000 in
set_option maxHeartbeats 1000000 in
theorem eight_any (V : Nat) (hV : V < 18446744073709551616) (w : World) :
  Calls Tryz.prog 92 #[.int .u64 (V : Int)] w fun e w' => ∃ a m c, e = .returned (.slice a m c) ∧ Own w' w.heap.size (.slice a m c) m (be8 V) ∧ Below w.heap.size w w' := by
 have HB8 : Hid (∀ t, ((be8 V).drop (8 - t)).length ≤ t) := fun t => by rw [List.length_drop]; have : (be8 V).length = 8 := rfl; omega
 have HBY : Hid (∀ t, Bys ((be8 V).drop (8 - t))) := fun t x hx => be8_bys V x (List.mem_of_mem_drop hx)
 go_enter Tryz.func92, Tryz.ntmps92
 go_wp2
 go_loopw [0, 3, 4] (fun x s i wr => ∃ (t u : Nat) (a : Option Addr) (m c : Nat), t ≤ 8 ∧ x = .int .u64 (u : Int) ∧ u = V / 256 ^ t ∧ i = .int .i64 (t : Int) ∧ s = .slice a m c ∧ Own wr w.heap.size (.slice a m c) m ((be8 V).drop (8 - t)) ∧ Below w.heap.size w wr) (fun _ _ i _ => 8 - (intOf i).toNat)
 case atStart => exact ⟨0, V, _, _, _, by omega, rfl, by simp, rfl, rfl, ⟨rfl, World.ownsRow_nil _ _ _ _⟩, Below.refl _ _⟩
 case round =>
  obtain ⟨t, u, a1, m1, c1, ht, rfl, hu, rfl, rfl, own1, hb⟩ := hrel
  have HU : Hid (u = V / 256 ^ t) := hu
  have hu64 : u < 18446744073709551616 := by rw [hu]; exact Nat.lt_of_le_of_lt (Nat.div_le_self _ _) hV
  clear hu
  have hbs := hb.size
  have hm1 : m1 ≤ t := by rw [own1.1]; exact HB8.out t
  by_cases hlt : t < 8
  ·have hlt2 : (t : Int) < 8 := by omega
   have r1 := own1.rd (HBY.out t) (by omega)
   have HST : Hid ((be8 V).drop (8 - (t + 1)) = [u % 256] ++ (be8 V).drop (8 - t)) := by unfold Hid; rw [be8_step V t hlt, HU.out]
   go_wp2_with (at_builtin; refine wpList_append_at rfl (.tmp 12) _ rfl w.heap.size (some ⟨wr.heap.size, 0, none⟩) 1 1 [u % 256] rfl (own_one' wr w.heap.size (u % 256) _ (by first | rfl | omega | (simp; done) | (simp; omega)) hbs) a1 m1 c1 _ rfl (r1.later ((Below.refl _ _).alloc (Nat.le_refl _) _)) (by omega) (by simp; omega) ?_; intro a3 m3 c3 w3 own3 hb3)
   go_roundw
   case rel => exact ⟨t + 1, u / 256, a3, m3, c3, by omega, by go_num, by rw [HU.out, Nat.div_div_eq_div_mul, Nat.pow_succ], by go_num, rfl, by rw [HST.out]; exact own3, hb.trans (((Below.refl w.heap.size wr).alloc hbs _).trans hb3)⟩
   case measure => simp [intOf]; omega
  ·have hge : (8 : Int) ≤ (t : Int) := by omega
   have ht8 : t = 8 := by omega
   have HT : Hid (t = 8) := ht8
   clear ht8
   go_wp2
   go_ret
   refine ⟨a1, m1, c1, rfl, ?_, hb⟩
   have h := own1
   rw [HT.out] at h
   simpa using h

set_option maxRecDepth 100000 in
theorem refRising_neg (z : Int) (hz : z < 0) (w : World) : Calls Tryz.prog 86 #[.int .i64 z] w fun e w' => e = .returned (.tuple #[.slice none 0 0, .int .i64 1]) ∧ w' = w := by
 go_enter Tryz.func86, Tryz.ntmps86
 go_wp2
 go_ret2
 exact ⟨rfl, rfl⟩
set_option maxRecDepth 100000 in
theorem refFalling_neg (z : Int) (hz : z < 0) (w : World) : Calls Tryz.prog 75 #[.int .i64 z] w fun e w' => e = .returned (.tuple #[.slice none 0 0, .int .i64 1]) ∧ w' = w := by
 go_enter Tryz.func75, Tryz.ntmps75
 go_wp2
 go_ret2
 exact ⟨rfl, rfl⟩
set_option maxRecDepth 100000 in
set_option maxHeartbeats 400000 in
theorem refRising_any (n : Nat) (hn : n < 9223372036854775808) (w : World) :
  Calls Tryz.prog 86 #[.int .i64 (n : Int)] w fun e w' => ∃ a m c, e = .returned (.tuple #[.slice a m c, .int .i64 0]) ∧ Own w' w.heap.size (.slice a m c) m (be8 n) ∧ Below w.heap.size w w' := by
 have h0 : (0 : Int) ≤ (n : Int) := by omega
 have hem : (n : Int) % 18446744073709551616 = (n : Int) := by omega
 go_enter Tryz.func86, Tryz.ntmps86
 go_wp2_with fail
 refine (eight_any n (by omega) _).mono ?_
 rintro e w1 ⟨a1, m1, c1, rfl, own1, hb1⟩
 go_wp2
 go_ret2
 exact ⟨a1, m1, c1, rfl, own1, hb1⟩
theorem refRising_at (z : Int) (n : Nat) (hz : z = (n : Int)) (hn : n < 9223372036854775808) (w : World) :
  Calls Tryz.prog 86 #[.int .i64 z] w fun e w' => ∃ a m c, e = .returned (.tuple #[.slice a m c, .int .i64 0]) ∧ Own w' w.heap.size (.slice a m c) m (be8 n) ∧ Below w.heap.size w w' := by
 subst hz; exact refRising_any n hn w
set_option maxRecDepth 100000 in
set_option maxHeartbeats 400000 in
theorem refFalling_any (n : Nat) (hn : n < 9223372036854775808) (w : World) :
  Calls Tryz.prog 75 #[.int .i64 (n : Int)] w fun e w' => ∃ a m c, e = .returned (.tuple #[.slice a m c, .int .i64 0]) ∧ Own w' w.heap.size (.slice a m c) m (be8 (9223372036854775807 - n)) ∧ Below w.heap.size w w' := by
 have h0 : (0 : Int) ≤ (n : Int) := by omega
 have h1 : (n : Int) ≤ 9223372036854775807 := by omega
 have HS : Hid ((9223372036854775807 : Int) - (n : Int) = ((9223372036854775807 - n : Nat) : Int)) := by unfold Hid; omega
 go_enter Tryz.func75, Tryz.ntmps75
 go_wp2_with fail
 refine (refRising_at _ (9223372036854775807 - n) HS.out (by omega) _).mono ?_
 rintro e w1 ⟨a1, m1, c1, rfl, own1, hb1⟩
 go_wp2
 go_ret2
 exact ⟨a1, m1, c1, rfl, own1, hb1⟩

theorem wrapN (v c : Nat) (h : v * 256 + c < 18446744073709551616) : IntKind.u64.wrap (IntKind.u64.wrap (256 * (v : Int)) + (c : Int)) = ((v * 256 + c : Nat) : Int) := by
 rw [IntKind.wrap_u64, IntKind.wrap_u64]; omega

theorem tup3i {X X' Y Y' Z : Int} (h1 : X = X') (h2 : Y = Y') : Ending.returned (Value.tuple #[Value.int .i64 X, Value.int .i64 Y, Value.int .i64 Z]) = Ending.returned (Value.tuple #[Value.int .i64 X', Value.int .i64 Y', Value.int .i64 Z]) := by rw [h1, h2]

end Go.Proofs.YtpabbnddeklpdaaGreat

namespace Go.Proofs.YtpabbnddeklpdaaGreat
open Go.RowKit
set_option linter.unusedVariables false

def plainD (vr vq vv : Value) : EntD := ⟨vr, 1, vq, 5, 32, 1, vv, [114], [113], [118]⟩
def zeroD : EntD := ⟨.slice none 0 0, 0, .slice none 0 0, 0, 0, 0, .slice none 0 0, [], [], []⟩
theorem rd_one {w : World} {g x : Nat} (h : w.cell? ⟨g, 0, none⟩ = some (.int .u8 (x : Int))) (hx : x < 256) : Rd w (.slice (some ⟨g, 0, none⟩) 1 1) [x] :=
 ⟨fun y hy => by simp at hy; omega, _, 1, rfl, Nat.le_refl _, by decide, by simp, .inr ⟨g, 0, rfl⟩, .inr ⟨g, 0, rfl, fun i hi => by
  obtain rfl : i = 0 := by simp at hi; omega
  simpa using h⟩⟩
theorem Apart.cell {g : Nat} {w w' : World} (h : Apart g w w') {k i : Nat} {x : Value} (hx : w.cell? ⟨k, i, none⟩ = some x) (hk : k ≠ g) : w'.cell? ⟨k, i, none⟩ = some x := by
 have hl : k < w.heap.size := World.block_lt_of_cell? w _ hx
 have e := h.block k hl hk
 unfold World.cell? at hx ⊢
 rw [e]
 exact hx


theorem three (w : World) (E : EntD) : ∃ w4, w4 = (((w.alloc (.cells E.cells 38)).alloc (.cells #[.int .u8 114] 5 (1, 2))).alloc (.cells #[.int .u8 113] 5 (1, 2))).alloc (.cells #[.int .u8 118] 5 (1, 2)) ∧ EBox w4 w.heap.size E ∧
  w4.cell? ⟨w.heap.size + 1, 0, none⟩ = some (.int .u8 114) ∧ w4.cell? ⟨w.heap.size + 2, 0, none⟩ = some (.int .u8 113) ∧ w4.cell? ⟨w.heap.size + 3, 0, none⟩ = some (.int .u8 118) ∧ Below w.heap.size w w4 := by
 have A1 := (Below.refl w.heap.size w).alloc (Nat.le_refl _) (.cells E.cells 38)
 have b1 := EBox.new w E
 have s1 : (w.alloc (.cells E.cells 38)).heap.size = w.heap.size + 1 := by simp
 obtain ⟨w1, hw1⟩ : ∃ w1, w1 = w.alloc (.cells E.cells 38) := ⟨_, rfl⟩
 rw [← hw1] at A1 b1 s1
 have A2 := (Below.refl w1.heap.size w1).alloc (Nat.le_refl _) (.cells #[.int .u8 114] 5 (1, 2))
 have s2 : (w1.alloc (.cells #[.int .u8 114] 5 (1, 2))).heap.size = w.heap.size + 2 := by simp [s1]
 have c2 : (w1.alloc (.cells #[.int .u8 114] 5 (1, 2))).cell? ⟨w.heap.size + 1, 0, none⟩ = some (.int .u8 114) := by rw [Joins.cell_alloc_mark_at _ _ _ _ _ _ s1.symm]; rfl
 obtain ⟨w2, hw2⟩ : ∃ w2, w2 = w1.alloc (.cells #[.int .u8 114] 5 (1, 2)) := ⟨_, rfl⟩
 rw [← hw2] at A2 s2 c2
 have A3 := (Below.refl w2.heap.size w2).alloc (Nat.le_refl _) (.cells #[.int .u8 113] 5 (1, 2))
 have s3 : (w2.alloc (.cells #[.int .u8 113] 5 (1, 2))).heap.size = w.heap.size + 3 := by simp [s2]
 have c3 : (w2.alloc (.cells #[.int .u8 113] 5 (1, 2))).cell? ⟨w.heap.size + 2, 0, none⟩ = some (.int .u8 113) := by rw [Joins.cell_alloc_mark_at _ _ _ _ _ _ s2.symm]; rfl
 obtain ⟨w3, hw3⟩ : ∃ w3, w3 = w2.alloc (.cells #[.int .u8 113] 5 (1, 2)) := ⟨_, rfl⟩
 rw [← hw3] at A3 s3 c3
 have A4 := (Below.refl w3.heap.size w3).alloc (Nat.le_refl _) (.cells #[.int .u8 118] 5 (1, 2))
 have c4 : (w3.alloc (.cells #[.int .u8 118] 5 (1, 2))).cell? ⟨w.heap.size + 3, 0, none⟩ = some (.int .u8 118) := by rw [Joins.cell_alloc_mark_at _ _ _ _ _ _ s3.symm]; rfl
 obtain ⟨w4, hw4⟩ : ∃ w4, w4 = w3.alloc (.cells #[.int .u8 118] 5 (1, 2)) := ⟨_, rfl⟩
 rw [← hw4] at A4 c4
 refine ⟨w4, by rw [hw4, hw3, hw2, hw1], ((b1.later A2).later A3).later A4, ?_, ?_, c4, ((A1.trans (A2.mono A1.size)).trans (A3.mono (by omega))).trans (A4.mono (by omega))⟩
 ·rw [A4.cell (p := ⟨w.heap.size + 1, 0, none⟩) (by simp; omega), A3.cell (p := ⟨w.heap.size + 1, 0, none⟩) (by simp; omega)]; exact c2
 ·rw [A4.cell (p := ⟨w.heap.size + 2, 0, none⟩) (by simp; omega)]; exact c3

def plainK : List Nat := [114, 0, 1, 1, 1, 113, 0, 1, 1, 127, 255, 255, 255, 255, 255, 255, 250, 127, 255, 255, 255, 255, 255, 255, 223, 1]
theorem plainK_bys : Bys plainK := by
 have h : ∀ x ∈ plainK, x < 256 := by decide
 exact h
theorem be8_a : be8 (9223372036854775807 - 5) = [127, 255, 255, 255, 255, 255, 255, 250] := by decide +kernel
theorem be8_b : be8 (9223372036854775807 - 32) = [127, 255, 255, 255, 255, 255, 255, 223] := by decide +kernel
theorem keyL_plain (vr vq vv : Value) : keyL (plainD vr vq vv) = plainK := by
 have h1 : ordL [114] = [114, 0, 1] := by simp [ordL, escL]
 have h2 : ordL [113] = [113, 0, 1] := by simp [ordL, escL]
 show ((((ordL [114] ++ [1, mark 1 5]) ++ (if (1 : Int) = 5 then [] else ordL [113] ++ [mark 1 4])) ++ be8 (9223372036854775807 - 5)) ++ be8 (9223372036854775807 - 32)) ++ [1] = plainK
 rw [h1, h2, be8_a, be8_b]
 simp [mark, plainK]

set_option maxRecDepth 100000 in
theorem refOut_in (n lo hi : Int) (w : World) (h1 : lo ≤ n) (h2 : n ≤ hi) : Calls Tryz.prog 72 #[.int .i64 n, .int .i64 lo, .int .i64 hi] w fun e w' => e = .returned (.bool false) ∧ w' = w := by
 have d1 : decide (n < lo) = false := by simpa using h1
 have d2 : decide (hi < n) = false := by simpa using h2
 go_enter Tryz.func72, Tryz.ntmps72
 go_wp2
 go_ret
 exact ⟨by first | rfl | simp [d1, d2], rfl⟩

end Go.Proofs.YtpabbnddeklpdaaGreat

namespace Go.Proofs.YtpabbnddeklpdaaGreat
open Go.RowKit
set_option linter.unusedVariables false

set_option maxRecDepth 100000 in
set_option maxHeartbeats 1000000 in
theorem refCheck_plain {vr vq vv : Value} {w : World} (hok : EntD.Ok w (plainD vr vq vv)) :
  Calls Tryz.prog 51 #[.agg (plainD vr vq vv).cells] w fun r w' => r = .returned (.int .i64 0) ∧ Below w.heap.size w w' := by
 obtain ⟨h1, h2, h3⟩ := hok
 obtain ⟨ar, nr, cr, e1⟩ := rd_slice h1
 obtain ⟨aq, nq, cq, e2⟩ := rd_slice h2
 obtain ⟨av, nv, cv, e3⟩ := rd_slice h3
 simp only [plainD] at e1 e2 e3 h1 h2 h3
 subst e1 e2 e3
 obtain rfl : nr = 1 := (rd_lens h1).1
 obtain rfl : nq = 1 := (rd_lens h2).1
 obtain rfl : nv = 1 := (rd_lens h3).1
 clear h1 h2 h3
 have A1 := (Below.refl w.heap.size w).alloc (Nat.le_refl _) (.cells (plainD (.slice ar 1 cr) (.slice aq 1 cq) (.slice av 1 cv)).cells 38)
 simp only [plainD, EntD.cells] at *
 go_enter Tryz.func51, Tryz.ntmps51
 go_wp2_with fail
 refine (refOut_in _ _ _ _ (by omega) (by omega)).mono ?_
 rintro e w1 ⟨rfl, rfl⟩
 go_wp2_with fail
 refine (refOut_in _ _ _ _ (by omega) (by omega)).mono ?_
 rintro e w1 ⟨rfl, rfl⟩
 go_wp2_with fail
 refine (refOut_in _ _ _ _ (by omega) (by omega)).mono ?_
 rintro e w1 ⟨rfl, rfl⟩
 go_wp2_with fail
 refine (refOut_in _ _ _ _ (by omega) (by omega)).mono ?_
 rintro e w1 ⟨rfl, rfl⟩
 go_wp2_with fail
 refine (refOut_in _ _ _ _ (by omega) (by omega)).mono ?_
 rintro e w1 ⟨rfl, rfl⟩
 go_wp2
 go_ret
 exact ⟨rfl, A1⟩
theorem wpList_append_gr {w : World} {ops : Array Oper} {rest : List Oper} {o : Oper} {a : Act} {Q : Exit → Act → World → Prop} (hgd : o.guard = none) (s x : Operand)
  (ho : o.op = .call { callee := .builtin .append, args := #[s, x], argTypes := #[34, 34] })
  (B : Nat) (a0 : Option Addr) (m0 c0 : Nat) (acc : List Nat) (hs : a.eval s = .slice a0 m0 c0) (hown : Own w B (.slice a0 m0 c0) m0 acc)
  (ao : Option Addr) (m c : Nat) (bs : List Nat) (hx : a.eval x = .slice ao m c) (hrd : Rd w (.slice ao m c) bs)
  (hbytes : m0 + m ≤ 140737488355328) (hB : B ≤ w.heap.size)
  (h : ∀ a' m' c' w', Own w' B (.slice a' m' c') m' (acc ++ bs) → Below B w w' → w.grownBy w' (Value.slice a0 m0 c0).ownBlock → wpList Tryz.prog ops Q rest (a.put o.dst (.slice a' m' c')) w') : wpList Tryz.prog ops Q (o :: rest) a w := by
 obtain ⟨i0, hi, hz0, hz1, hz2⟩ := info_parts info_byte
 obtain ⟨hby, a1, c1, h2, hle, hm, hl48, hnone, hat⟩ := hrd
 simp only [Value.slice.injEq] at h2
 obtain ⟨rfl, rfl, rfl⟩ := h2
 cases ao with
 | none =>
  have hb0 : bs = [] ∧ c = 0 := by
   rcases hnone with h | ⟨b, off, h⟩
   ·exact ⟨List.eq_nil_of_length_eq_zero (by omega), h⟩
   ·cases h
  obtain ⟨rfl, rfl⟩ := hb0
  refine wpList_append_own_none hgd s x 34 ho B 5 i0 1 und_bytes hi _ _ _ hs hown.2 (by simpa using hx) ?_
  exact h _ _ _ _ (by simpa using hown) (Below.refl _ _) (World.grownBy.refl _ _)
 | some ad =>
  refine wpList_append_own _ hgd s x 34 ho B 5 i0 (.int .u8 0) 1 1 und_bytes hi hz0 hz1 hz2 rfl (by decide) _ m0 (bv acc) hs hown.2 ad bs.length c (bv bs) hx (by simp [bv]) hat.add (bv_oneCell bs) (by unfold maxLen; omega) (by omega) hB ?_
  intro v' w' h1 h2 _
  obtain ⟨a', c', rfl⟩ := own_form h1
  refine h a' _ c' w' ⟨by rw [hown.1]; simp, by simpa [bv] using h1⟩ ((Below.refl B w).grown h2 hB (fun k hk => (hown.2.lt k hk).1)) h2


theorem Own.grown {w w' : World} {B m : Nat} {v : Value} {o : Option Nat} {xs : List Nat} (h : Own w B v m xs) (k : w.grownBy w' o) (hne : ∀ g, o = some g → g < B) : Own w' B v m xs := by
 refine ⟨h.1, h.2.1, ?_⟩
 rcases h.2.2 with h2 | ⟨g, cap, cur, h3, h4, h5, h6⟩
 ·exact .inl h2
 ·refine .inr ⟨g, cap, cur, h3, h4, ?_, h6⟩
  rw [k.block g (Array.getElem?_eq_some_iff.1 h5).1 ?_]
  ·exact h5
  ·intro e
   have := hne g e.symm
   omega

set_option maxRecDepth 100000 in
set_option maxHeartbeats 1000000 in
theorem refkey_plain {vr vq vv : Value} {w : World} (hok : EntD.Ok w (plainD vr vq vv)) :
  Calls Tryz.prog 53 #[.agg (plainD vr vq vv).cells] w fun r w' => ∃ a m c, r = .returned (.slice a m c) ∧ Own w' w.heap.size (.slice a m c) m plainK ∧ Below w.heap.size w w' := by
 obtain ⟨h1, h2, h3⟩ := hok
 have A1 := (Below.refl w.heap.size w).alloc (Nat.le_refl _) (.cells (plainD vr vq vv).cells 38)
 have bx1 : Hid (EBox (w.alloc (.cells (plainD vr vq vv).cells 38)) w.heap.size (plainD vr vq vv)) := EBox.new w (plainD vr vq vv)
 have o1 : ordL [114] = [114, 0, 1] := by simp [ordL, escL]
 have o2 : ordL [113] = [113, 0, 1] := by simp [ordL, escL]
 simp only [plainD, EntD.cells] at *
 have HRR : Hid (Rd w vr [114]) := h1
 have HRQ : Hid (Rd w vq [113]) := h2
 have HO : Hid (ordL [114] = [114, 0, 1] ∧ ordL [113] = [113, 0, 1]) := ⟨o1, o2⟩
 clear h1 h2 h3 o1 o2
 go_enter Tryz.func53, Tryz.ntmps53
 go_wp2_with fail
 refine (refOrdered_any (HRR.out.later A1) (by rw [HO.out.1]; decide)).mono ?_
 rintro e1 w1 ⟨a1, m1, c1, rfl, own1, hb1⟩
 rw [HO.out.1] at own1
 obtain rfl : m1 = 3 := own1.1
 have B1 := A1.trans (hb1.mono A1.size)
 have bx1b : Hid (EBox w1 w.heap.size _) := bx1.out.later hb1
 have hG : w.heap.size < w.heap.size + 1 := by omega
 have own1' : Own w1 (w.heap.size + 1) (.slice a1 3 c1) 3 [114, 0, 1] := by simpa using own1
 have hS1 : w.heap.size + 1 ≤ w1.heap.size := by have := hb1.size; simpa using this
 clear hb1 bx1 own1
 have bxw1 : Hid (EBox w1 w.heap.size _) := bx1b.out
 clear bx1b
 have xfam1 := bxw1.out.fam
 simp only at xfam1
 go_wp2_with (at_builtin; refine wpList_append_new rfl _ _ rfl (w.heap.size + 1) a1 3 c1 _ rfl own1' [_] 1 rfl [1] rfl rfl (by omega) hS1 ?_; intro a2 m2 c2 w2 own2 hb2; refine Hid.out ?_)
 refine Lib.hid ?_
 obtain rfl : m2 = 4 := by rw [own2.1]; rfl
 have bxw2 : Hid (EBox w2 w.heap.size _) := bxw1.out.keep hb2 hG
 have B2 := B1.trans (hb2.mono (Nat.le_of_lt hG))
 have hS2 : w.heap.size + 1 ≤ w2.heap.size := Nat.le_trans hS1 hb2.size
 clear bxw1 B1 hS1 hb2
 clear xfam1 own1'
 have xkind2 := bxw2.out.kind
 simp only at xkind2
 go_wp2_with (at_builtin; refine wpList_append_new rfl _ _ rfl (w.heap.size + 1) a2 4 c2 _ rfl own2 [_] 1 rfl [1] rfl rfl (by omega) hS2 ?_; intro a3 m3 c3 w3 own3 hb3; refine Hid.out ?_)
 refine Lib.hid ?_
 obtain rfl : m3 = 5 := by rw [own3.1]; rfl
 have bxw3 : Hid (EBox w3 w.heap.size _) := bxw2.out.keep hb3 hG
 have B3 := B2.trans (hb3.mono (Nat.le_of_lt hG))
 have hS3 : w.heap.size + 1 ≤ w3.heap.size := Nat.le_trans hS2 hb3.size
 clear bxw2 B2 hS2 hb3
 clear xkind2 own2
 have xvq3 := bxw3.out.vq
 simp only at xvq3
 go_wp2_with fail
 refine (refOrdered_any (HRQ.out.later B3) (by rw [HO.out.2]; decide)).mono ?_
 rintro e4 w4 ⟨a4, m4, c4, rfl, own4, hb4⟩
 rw [HO.out.2] at own4
 obtain rfl : m4 = 3 := own4.1
 have r4 : Rd w4 (.slice a4 3 c4) [113, 0, 1] := own4.rd (by intro x hx; simp at hx; omega) (by omega)
 have own34 := own3.later hb4
 have bxw4 : Hid (EBox w4 w.heap.size _) := bxw3.out.later hb4
 have B4 := B3.trans (hb4.mono B3.size)
 have hS4 : w.heap.size + 1 ≤ w4.heap.size := Nat.le_trans hS3 hb4.size
 clear bxw3 B3 hS3 hb4 own3 own4 xvq3
 go_wp2_with (at_builtin; refine wpList_append_at rfl _ _ rfl (w.heap.size + 1) a3 5 c3 _ rfl own34 a4 3 c4 _ rfl r4 (by omega) hS4 ?_; intro a5 m5 c5 w5 own5 hb5; refine Hid.out ?_)
 refine Lib.hid ?_
 obtain rfl : m5 = 8 := by rw [own5.1]; rfl
 have bxw5 : Hid (EBox w5 w.heap.size _) := bxw4.out.keep hb5 hG
 have B5 := B4.trans (hb5.mono (Nat.le_of_lt hG))
 have hS5 : w.heap.size + 1 ≤ w5.heap.size := Nat.le_trans hS4 hb5.size
 clear bxw4 B4 hS4 hb5
 clear own34 r4
 have xkind5 := bxw5.out.kind
 simp only at xkind5
 go_wp2_with (at_builtin; refine wpList_append_new rfl _ _ rfl (w.heap.size + 1) a5 8 c5 _ rfl own5 [_] 1 rfl [1] rfl rfl (by omega) hS5 ?_; intro a6 m6 c6 w6 own6 hb6; refine Hid.out ?_)
 refine Lib.hid ?_
 obtain rfl : m6 = 9 := by rw [own6.1]; rfl
 have bxw6 : Hid (EBox w6 w.heap.size _) := bxw5.out.keep hb6 hG
 have B6 := B5.trans (hb6.mono (Nat.le_of_lt hG))
 have hS6 : w.heap.size + 1 ≤ w6.heap.size := Nat.le_trans hS5 hb6.size
 clear bxw5 B5 hS5 hb6
 clear xkind5 own5
 have xts6 := bxw6.out.ts
 simp only at xts6
 go_wp2_with fail
 refine (refFalling_any 5 (by decide) _).mono ?_
 rintro e7 w7 ⟨a7, m7, c7, rfl, own7, hb7⟩
 rw [be8_a] at own7
 obtain rfl : m7 = 8 := own7.1
 have r7 : Rd w7 (.slice a7 8 c7) _ := own7.rd (by rw [← be8_a]; exact be8_bys _) (by omega)
 have own67 := own6.later hb7
 have bxw7 : Hid (EBox w7 w.heap.size _) := bxw6.out.later hb7
 have B7 := B6.trans (hb7.mono B6.size)
 have hS7 : w.heap.size + 1 ≤ w7.heap.size := Nat.le_trans hS6 hb7.size
 clear bxw6 B6 hS6 hb7 own6 own7 xts6
 have xseq7 := bxw7.out.seq
 simp only at xseq7
 go_wp2_with fail
 refine (refFalling_any 32 (by decide) _).mono ?_
 rintro e8 w8 ⟨a8, m8, c8, rfl, own8, hb8⟩
 rw [be8_b] at own8
 obtain rfl : m8 = 8 := own8.1
 have r8 : Rd w8 (.slice a8 8 c8) _ := own8.rd (by rw [← be8_b]; exact be8_bys _) (by omega)
 have r78 := r7.later hb8
 have own68 := own67.later hb8
 have HLT : Hid (∀ g, (Value.slice a6 9 c6).ownBlock = some g → g < w7.heap.size) := fun g hg => (own67.2.lt g hg).2
 have bxw8 : Hid (EBox w8 w.heap.size _) := bxw7.out.later hb8
 have B8 := B7.trans (hb8.mono B7.size)
 have hS8 : w.heap.size + 1 ≤ w8.heap.size := Nat.le_trans hS7 hb8.size
 have R8 : Hid (Own w8 w7.heap.size (.slice a8 8 c8) 8 [127, 255, 255, 255, 255, 255, 255, 223] ∧ Below w7.heap.size w7 w8) := ⟨own8, hb8⟩
 clear bxw7 B7 hb8 own67 own8 xseq7 r7
 go_wp2_with (at_builtin; refine wpList_append_gr rfl _ _ rfl (w.heap.size + 1) a6 9 c6 _ rfl own68 a7 8 c7 _ rfl r78 (by omega) hS8 ?_; intro a9 m9 c9 w9 own9 hb9 gr9; refine Hid.out ?_)
 refine Lib.hid ?_
 obtain rfl : m9 = 17 := by rw [own9.1]; rfl
 have r9 : Rd w9 (.slice a8 8 c8) _ := (R8.out.1.grown gr9 HLT.out).rd (by rw [← be8_b]; exact be8_bys _) (by omega)
 have bxw9 : Hid (EBox w9 w.heap.size _) := bxw8.out.keep hb9 hG
 have B9 := B8.trans (hb9.mono (Nat.le_of_lt hG))
 have hS9 : w.heap.size + 1 ≤ w9.heap.size := Nat.le_trans hS8 hb9.size
 clear bxw8 B8 hS8 hb9 own68 r78 r8 R8 HLT gr9 hS7
 go_wp2_with (at_builtin; refine wpList_append_at rfl _ _ rfl (w.heap.size + 1) a9 17 c9 _ rfl own9 a8 8 c8 _ rfl r9 (by omega) hS9 ?_; intro a10 m10 c10 w10 own10 hb10; refine Hid.out ?_)
 refine Lib.hid ?_
 obtain rfl : m10 = 25 := by rw [own10.1]; rfl
 have bxw10 : Hid (EBox w10 w.heap.size _) := bxw9.out.keep hb10 hG
 have B10 := B9.trans (hb10.mono (Nat.le_of_lt hG))
 have hS10 : w.heap.size + 1 ≤ w10.heap.size := Nat.le_trans hS9 hb10.size
 clear bxw9 B9 hS9 hb10 own9 r9
 have xk10 := bxw10.out.kind
 simp only at xk10
 go_wp2_with (at_builtin; refine wpList_append_new rfl _ _ rfl (w.heap.size + 1) a10 25 c10 _ rfl own10 [_] 1 rfl [1] rfl rfl (by omega) hS10 ?_; intro a11 m11 c11 w11 own11 hb11)
 go_ret
 exact ⟨a11, m11, c11, rfl, own11.mono (Nat.le_of_lt hG), B10.trans (hb11.mono (Nat.le_of_lt hG))⟩

end Go.Proofs.YtpabbnddeklpdaaGreat

namespace Go.Proofs.YtpabbnddeklpdaaGreat
open Go.RowKit
set_option linter.unusedVariables false

theorem ordR_a : ordR plainK 0 = ([114], 3, 0) := by simp [ordR, plainK, rord]
theorem ordR_b : ordR plainK 5 = ([113], 8, 0) := by simp [ordR, plainK, rord]
theorem fallR_a : fallR plainK 9 = (5, 17, 0) := by decide +kernel
theorem fallR_b : fallR plainK 17 = (32, 25, 0) := by decide +kernel
theorem oneR_3 : oneR plainK 3 = (1, 4, false) := rfl
theorem oneR_4 : oneR plainK 4 = (1, 5, false) := rfl
theorem oneR_8 : oneR plainK 8 = (1, 9, false) := rfl
theorem oneR_25 : oneR plainK 25 = (1, 26, false) := rfl
theorem check_plain : checkS ⟨.slice none 0 0, ((1 : Nat) : Int), .slice none 0 0, ((5 : Nat) : Int), ((32 : Nat) : Int), ((1 : Nat) : Int), .slice none 0 0, [114], [113], []⟩ = 0 := by simp [checkS]
theorem take_eq {xs ys : List Nat} {t : Nat} (h1 : t < xs.length) (h2 : t < ys.length) (h : xs.take t = ys.take t) (he : xs.getD t 0 = ys.getD t 0) : xs.take (t + 1) = ys.take (t + 1) := by
 rw [List.take_add_one, List.take_add_one, h, List.getElem?_eq_getElem h1, List.getElem?_eq_getElem h2]
 simp [List.getD, List.getElem?_eq_getElem h1, List.getElem?_eq_getElem h2] at he
 simp [he]

set_option maxRecDepth 100000 in
set_option maxHeartbeats 1000000 in
theorem alike_any {va vb : Value} {xs ys : List Nat} {w : World} (ha : Rd w va xs) (hb : Rd w vb ys) :
  Calls Tryz.prog 35 #[va, vb] w fun e w' => e = .returned (.bool (decide (xs = ys))) ∧ Below w.heap.size w w' := by
 obtain ⟨a, n, cap, rfl⟩ := rd_slice ha
 obtain ⟨b, m, capb, rfl⟩ := rd_slice hb
 obtain ⟨hn, _, _, hn48⟩ := rd_lens ha
 obtain ⟨hm, _, _, hm48⟩ := rd_lens hb
 have HN : Hid (n = xs.length) := hn
 have HM : Hid (m = ys.length) := hm
 clear hn hm
 by_cases hnm : n = m
 ·subst hnm
  go_enter Tryz.func35, Tryz.ntmps35
  go_wp2
  go_loopw [5] (fun i wr => ∃ t : Nat, t ≤ n ∧ i = .int .i64 (t : Int) ∧ xs.take t = ys.take t ∧ Below w.heap.size w wr) (fun i _ => n - (intOf i).toNat)
  case atStart => exact ⟨0, by omega, rfl, rfl, Below.refl _ _⟩
  case round =>
   obtain ⟨t, htn, rfl, heq, hbk⟩ := hrel
   have HQ : Hid (xs.take t = ys.take t) := heq
   clear heq
   by_cases h1 : t < n
   ·have h1' : (t : Int) < (n : Int) := by omega
    have ht0 : (0 : Int) ≤ (t : Int) := by omega
    rcases rd_some ha with ⟨_, h0, _⟩ | ⟨ba, oa, rfl⟩
    ·omega
    rcases rd_some hb with ⟨_, h0, _⟩ | ⟨bb, ob, rfl⟩
    ·omega
    obtain ⟨ca0, cal⟩ := rd_cell ha t h1
    obtain ⟨cb0, cbl⟩ := rd_cell hb t h1
    have ca : wr.cell? ⟨ba, oa + t, none⟩ = some (.int .u8 ((xs.getD t 0 : Nat) : Int)) := by
     rw [hbk.cell (p := ⟨ba, oa + t, none⟩) (World.block_lt_of_cell? w _ ca0)]; exact ca0
    have cb : wr.cell? ⟨bb, ob + t, none⟩ = some (.int .u8 ((ys.getD t 0 : Nat) : Int)) := by
     rw [hbk.cell (p := ⟨bb, ob + t, none⟩) (World.block_lt_of_cell? w _ cb0)]; exact cb0
    have HTE : Hid (xs.getD t 0 = ys.getD t 0 → xs.take (t + 1) = ys.take (t + 1)) := fun e => take_eq (by rw [← HN.out]; exact h1) (by rw [← HM.out]; exact h1) HQ.out e
    have HNE : Hid (xs.getD t 0 ≠ ys.getD t 0 → xs ≠ ys) := fun e h => e (by rw [h])
    obtain ⟨x, hx⟩ : ∃ x, x = xs.getD t 0 := ⟨_, rfl⟩
    obtain ⟨y, hy⟩ : ∃ y, y = ys.getD t 0 := ⟨_, rfl⟩
    rw [← hx] at ca cal HTE HNE
    rw [← hy] at cb cbl HTE HNE
    clear hx hy ca0 cb0
    by_cases hxy : x = y
    ·subst hxy
     go_wp2
     go_quiet (fail)
     go_wp2
     go_roundw
     case rel => exact ⟨t + 1, by omega, by go_num, HTE.out trivial, below_drewN hbk _⟩
     case measure => simp [intOf]; omega
    ·have hxy' : ¬ ((x : Int) = (y : Int)) := by omega
     go_wp2
     go_quiet (fail)
     go_wp2
     go_ret
     rw [decide_eq_false (HNE.out hxy)]
     exact ⟨rfl, below_drewN hbk _⟩
   ·have h1' : (n : Int) ≤ (t : Int) := by omega
    go_wp2
    go_ret
    have e : xs = ys := by
     have := HQ.out
     rw [List.take_of_length_le (by rw [← HN.out]; omega), List.take_of_length_le (by rw [← HM.out]; omega)] at this
     exact this
    rw [decide_eq_true e]
    exact ⟨rfl, hbk⟩
 ·have hnm' : ¬ ((n : Int) = (m : Int)) := by omega
  go_enter Tryz.func35, Tryz.ntmps35
  go_wp2
  go_ret
  rw [decide_eq_false (fun e => hnm (by rw [HN.out, HM.out, e]))]
  exact ⟨rfl, Below.refl _ _⟩

end Go.Proofs.YtpabbnddeklpdaaGreat

namespace Go.Proofs.YtpabbnddeklpdaaGreat
open Go.RowKit
set_option linter.unusedVariables false

theorem EBox.cells7 {w : World} {g : Nat} {e : EntD} (h : EBox w g e) : w.cell? ⟨g, 0, none⟩ = some e.vr ∧ w.cell? ⟨g, 1, none⟩ = some (.int .i64 e.fam) ∧ w.cell? ⟨g, 2, none⟩ = some e.vq ∧ w.cell? ⟨g, 3, none⟩ = some (.int .i64 e.ts) ∧ w.cell? ⟨g, 4, none⟩ = some (.int .i64 e.seq) ∧ w.cell? ⟨g, 5, none⟩ = some (.int .i64 e.kind) ∧ w.cell? ⟨g, 6, none⟩ = some e.vv := ⟨h.vr, h.fam, h.vq, h.ts, h.seq, h.kind, h.vv⟩
theorem check_plainD (vr vq vv : Value) : checkS (plainD vr vq vv) = 0 := by simp [checkS, plainD]
def badD (vr vq vv : Value) (seq : Int) : EntD := ⟨vr, 1, vq, 0, seq, 1, vv, [114], [113], [118]⟩
theorem check_badD (vr vq vv : Value) (seq : Int) : checkS (badD vr vq vv seq) = 23 := by simp [checkS, badD]

theorem cmp_plain (a b c x y z : Value) : compareS (plainD a b c) (badD x y z 32) = -1 := by simp [compareS, cmpsS, firstNZ, plainD, badD, ordC_self, cmpI, aheadS]
theorem alike_same {va vb : Value} {xs : List Nat} {w : World} (ha : Rd w va xs) (hb : Rd w vb xs) :
  Calls Tryz.prog 35 #[va, vb] w fun e w' => e = .returned (.bool true) ∧ Below w.heap.size w w' := by
 have h := alike_any ha hb
 rw [decide_eq_true rfl] at h
 exact h

end Go.Proofs.YtpabbnddeklpdaaGreat

namespace Go.Proofs.YtpabbnddeklpdaaGreat
open Go.RowKit
set_option linter.unusedVariables false

def marks5 : List Nat := [201, 202, 203, 204, 205]
theorem marks5_bys : Bys marks5 := by
 have h : ∀ x ∈ marks5, x < 256 := by decide
 exact h
theorem rep_bys (n m : Nat) (h : m < 256) : Bys (List.replicate n m) := by intro x hx; rw [List.eq_of_mem_replicate hx]; exact h

def Laid (w : World) (B : Nat) (u : Value) (bs : List Nat) : Prop := ∃ g c, u = .slice (some ⟨g, 0, none⟩) bs.length c ∧ bs.length + 75 ≤ c ∧ c ≤ maxLen ∧ Own w B (.slice (some ⟨g, 0, none⟩) (bs.length + 75) c) (bs.length + 75) ((bs ++ marks5) ++ List.replicate 70 206)
theorem Laid.later {w w' : World} {B : Nat} {u : Value} {bs : List Nat} (h : Laid w B u bs) (hb : Below w.heap.size w w') : Laid w' B u bs := by
 obtain ⟨g, c, h1, h2, h3, h4⟩ := h
 exact ⟨g, c, h1, h2, h3, h4.later hb⟩
theorem Laid.all {w : World} {B g c : Nat} {bs : List Nat} (h4 : Own w B (.slice (some ⟨g, 0, none⟩) (bs.length + 75) c) (bs.length + 75) ((bs ++ marks5) ++ List.replicate 70 206)) (hb : Bys bs) (hl : bs.length ≤ 140737488355328) : Rd w (.slice (some ⟨g, 0, none⟩) (bs.length + 75) c) ((bs ++ marks5) ++ List.replicate 70 206) :=
 h4.rd (Bys.app (Bys.app hb marks5_bys) (rep_bys _ _ (by decide))) (by omega)
theorem Laid.rd {w : World} {B : Nat} {u : Value} {bs : List Nat} (h : Laid w B u bs) (hb : Bys bs) (hl : bs.length ≤ 140737488355328) : Rd w u bs := by
 obtain ⟨g, c, rfl, h2, h3, h4⟩ := h
 have := (Laid.all h4 hb hl).upto bs.length (by omega)
 simpa using this

end Go.Proofs.YtpabbnddeklpdaaGreat

namespace Go.Proofs.YtpabbnddeklpdaaGreat
open Go.RowKit
set_option linter.unusedVariables false

def Dif (xs ys : List Nat) (c : Int) : Prop :=
 (c = 0 ∧ xs = ys) ∨ (c = -1 ∧ ∃ p x y r s, xs = p ++ x :: r ∧ ys = p ++ y :: s ∧ x < y) ∨ (c = 1 ∧ ∃ p x y r s, xs = p ++ x :: r ∧ ys = p ++ y :: s ∧ y < x)
theorem Dif.more {xs ys : List Nat} {c : Int} (h : Dif xs ys c) (hc : c ≠ 0) (u v : List Nat) : Dif (xs ++ u) (ys ++ v) c := by
 rcases h with ⟨h, _⟩ | ⟨h, p, x, y, r, s, rfl, rfl, hx⟩ | ⟨h, p, x, y, r, s, rfl, rfl, hx⟩
 ·exact absurd h hc
 ·exact .inr (.inl ⟨h, p, x, y, r ++ u, s ++ v, by simp, by simp, hx⟩)
 ·exact .inr (.inr ⟨h, p, x, y, r ++ u, s ++ v, by simp, by simp, hx⟩)
theorem Dif.ahead {u v : List Nat} {c : Int} (h : Dif u v c) (xs : List Nat) : Dif (xs ++ u) (xs ++ v) c := by
 rcases h with ⟨h, rfl⟩ | ⟨h, p, x, y, r, s, rfl, rfl, hx⟩ | ⟨h, p, x, y, r, s, rfl, rfl, hx⟩
 ·exact .inl ⟨h, rfl⟩
 ·exact .inr (.inl ⟨h, xs ++ p, x, y, r, s, by simp, by simp, hx⟩)
 ·exact .inr (.inr ⟨h, xs ++ p, x, y, r, s, by simp, by simp, hx⟩)
theorem Dif.cons {xs ys u v : List Nat} {c : Int} {l : List Int} (h : Dif xs ys c) (k : c = 0 → Dif u v (firstNZ l)) : Dif (xs ++ u) (ys ++ v) (firstNZ (c :: l)) := by
 unfold firstNZ
 by_cases hc : c = 0
 ·rw [if_pos hc]
  rcases h with ⟨_, rfl⟩ | ⟨h, _⟩ | ⟨h, _⟩
  ·exact (k hc).ahead xs
  ·omega
  ·omega
 ·rw [if_neg hc]
  exact h.more hc u v
theorem dif_ordC : ∀ (xs ys : List Nat), (¬ xs <+: ys ∧ ¬ ys <+: xs) ∨ xs = ys → Dif xs ys (ordC xs ys)
 | [], ys, h => by
  rcases h with h | rfl
  ·exact absurd (List.nil_prefix) h.1
  ·exact .inl ⟨ordC_self _, rfl⟩
 | x :: xs, [], h => by
  rcases h with h | h
  ·exact absurd (List.nil_prefix) h.2
  ·cases h
 | x :: xs, y :: ys, h => by
  unfold ordC
  by_cases h1 : x < y
  ·rw [if_pos h1]
   exact .inr (.inl ⟨rfl, [], x, y, xs, ys, rfl, rfl, h1⟩)
  ·rw [if_neg h1]
   by_cases h2 : y < x
   ·rw [if_pos h2]
    exact .inr (.inr ⟨rfl, [], x, y, xs, ys, rfl, rfl, h2⟩)
   ·rw [if_neg h2]
    obtain rfl : x = y := by omega
    have := dif_ordC xs ys (by
     rcases h with ⟨h3, h4⟩ | h
     ·exact .inl ⟨fun k => h3 (List.cons_prefix_cons.2 ⟨rfl, k⟩), fun k => h4 (List.cons_prefix_cons.2 ⟨rfl, k⟩)⟩
     ·exact .inr (by simpa using h))
    exact this.ahead [x]
theorem dif_len {xs ys : List Nat} (h : xs.length = ys.length) : Dif xs ys (ordC xs ys) := by
 refine dif_ordC xs ys ?_
 by_cases e : xs = ys
 ·exact .inr e
 ·exact .inl ⟨fun k => e (k.eq_of_length h), fun k => e (k.eq_of_length h.symm).symm⟩
theorem dif_ordL (a b : List Nat) : Dif (ordL a) (ordL b) (ordC a b) := by
 rw [← ordC_ordL0]
 refine dif_ordC _ _ ?_
 by_cases e : ordC a b = 0
 ·exact .inr (by rw [ordC_eq a b e])
 ·have e2 : ordC b a ≠ 0 := by rw [ordC_swap]; omega
  exact .inl ⟨fun k => ordL_free a b e ⟨k.length_le, (List.prefix_iff_eq_take.1 k)⟩, fun k => ordL_free b a e2 ⟨k.length_le, (List.prefix_iff_eq_take.1 k)⟩⟩
theorem dif_one (m n : Nat) : Dif [m] [n] (cmpI (m : Int) (n : Int)) := by
 have e : ordC [m] [n] = cmpI (m : Int) (n : Int) := by
  simp only [ordC, cmpI]
  repeat' split
  all_goals omega
 rw [← e]
 exact dif_len rfl
theorem dif_fall (m n : Nat) (hm : m < 9223372036854775808) (hn : n < 9223372036854775808) : Dif (be8 (9223372036854775807 - m)) (be8 (9223372036854775807 - n)) (cmpI (n : Int) (m : Int)) := by
 have e : ordC (be8 (9223372036854775807 - m)) (be8 (9223372036854775807 - n)) = cmpI (n : Int) (m : Int) := by
  rw [ordC_be8 _ _ (by omega) (by omega)]
  simp only [cmpN, cmpI]
  repeat' split
  all_goals omega
 rw [← e]
 exact dif_len rfl

theorem keyL_parts (e : EntD) : keyL e = ordL e.row ++ ([e.fam.toNat] ++ ([mark e.kind 5] ++ ((if e.kind = 5 then [] else ordL e.qual ++ [mark e.kind 4]) ++ (be8 (9223372036854775807 - e.ts.toNat) ++ (be8 (9223372036854775807 - e.seq.toNat) ++ ([e.kind.toNat] ++ [])))))) := by
 simp [keyL]

theorem key_dif {a b : EntD} (ha : checkS a = 0) (hb : checkS b = 0) : Dif (keyL a) (keyL b) (compareS a b) := by
 obtain ⟨_, fa, _, qa, ta, sa, ka, _⟩ := check_facts ha
 obtain ⟨_, fb, _, qb, tb, sb, kb, _⟩ := check_facts hb
 rw [keyL_parts, keyL_parts]
 unfold compareS cmpsS
 have tail : Dif (be8 (9223372036854775807 - a.ts.toNat) ++ (be8 (9223372036854775807 - a.seq.toNat) ++ ([a.kind.toNat] ++ []))) (be8 (9223372036854775807 - b.ts.toNat) ++ (be8 (9223372036854775807 - b.seq.toNat) ++ ([b.kind.toNat] ++ []))) (firstNZ [cmpI b.ts a.ts, cmpI b.seq a.seq, cmpI a.kind b.kind]) := by
  have d1 := dif_fall a.ts.toNat b.ts.toNat (by omega) (by omega)
  have d2 := dif_fall a.seq.toNat b.seq.toNat (by omega) (by omega)
  have d3 := dif_one a.kind.toNat b.kind.toNat
  rw [Int.toNat_of_nonneg (by omega), Int.toNat_of_nonneg (by omega)] at d1 d2 d3
  exact d1.cons fun _ => d2.cons fun _ => d3.cons fun _ => .inl ⟨rfl, rfl⟩
 have dm := dif_one a.fam.toNat b.fam.toNat
 rw [Int.toNat_of_nonneg (by omega), Int.toNat_of_nonneg (by omega)] at dm
 refine (dif_ordL a.row b.row).cons fun _ => dm.cons fun _ => (dif_one _ _).cons fun h5 => ?_
 by_cases k5 : a.kind = 5
 ·by_cases l5 : b.kind = 5
  ·rw [if_pos k5, if_pos l5, qa k5, qb l5]
   have e : aheadS a b 4 = 0 := by simp [aheadS, mark, k5, l5, cmpI]
   rw [e]
   simpa [firstNZ, ordC] using tail
  ·exfalso
   simp [mark, k5, l5, cmpI] at h5
 ·by_cases l5 : b.kind = 5
  ·exfalso
   simp [mark, k5, l5, cmpI] at h5
  ·rw [if_neg k5, if_neg l5, List.append_assoc, List.append_assoc]
   exact (dif_ordL a.qual b.qual).cons fun _ => (dif_one _ _).cons fun _ => tail

theorem dif_end {xs ys : List Nat} {c : Int} {t : Nat} (h : Dif xs ys c) (ht : xs.take t = ys.take t) (h1 : t ≤ xs.length) (h2 : t ≤ ys.length) (h3 : t = xs.length ∨ t = ys.length) : c = 0 ∧ xs.length = ys.length := by
 have key : ∀ (p r s : List Nat) (x y : Nat), xs = p ++ x :: r → ys = p ++ y :: s → x ≠ y → False := by
  intro p r s x y e1 e2 hne
  have hp : p.length < t := by
   rcases h3 with h | h
   ·rw [h, e1]; simp
   ·rw [h, e2]; simp
  have e3 : (xs.take t)[p.length]? = (ys.take t)[p.length]? := by rw [ht]
  rw [List.getElem?_take_of_lt hp, List.getElem?_take_of_lt hp, e1, e2] at e3
  simp at e3
  exact hne e3
 rcases h with ⟨h, rfl⟩ | ⟨h, p, x, y, r, s, e1, e2, hx⟩ | ⟨h, p, x, y, r, s, e1, e2, hx⟩
 ·exact ⟨h, rfl⟩
 ·exact (key p r s x y e1 e2 (by omega)).elim
 ·exact (key p r s x y e1 e2 (by omega)).elim
theorem dif_at {xs ys : List Nat} {c : Int} {t : Nat} (h : Dif xs ys c) (ht : xs.take t = ys.take t) (h1 : t < xs.length) (h2 : t < ys.length) (hne : xs.getD t 0 ≠ ys.getD t 0) : (c = -1 ∧ xs.getD t 0 < ys.getD t 0) ∨ (c = 1 ∧ ys.getD t 0 < xs.getD t 0) := by
 have key : ∀ (p r s : List Nat) (x y : Nat), xs = p ++ x :: r → ys = p ++ y :: s → x ≠ y → xs.getD t 0 = x ∧ ys.getD t 0 = y := by
  intro p r s x y e1 e2 hxy
  have hp : p.length = t := by
   rcases Nat.lt_trichotomy p.length t with h | h | h
   ·have e3 : (xs.take t)[p.length]? = (ys.take t)[p.length]? := by rw [ht]
    rw [List.getElem?_take_of_lt h, List.getElem?_take_of_lt h, e1, e2] at e3
    simp at e3
    exact absurd e3 hxy
   ·exact h
   ·exfalso
    apply hne
    rw [e1, e2]
    simp [List.getD, List.getElem?_append_left h]
  subst hp
  rw [e1, e2]
  simp [List.getD]
 rcases h with ⟨h, rfl⟩ | ⟨h, p, x, y, r, s, e1, e2, hx⟩ | ⟨h, p, x, y, r, s, e1, e2, hx⟩
 ·exact absurd rfl hne
 ·obtain ⟨g1, g2⟩ := key p r s x y e1 e2 (by omega)
  exact .inl ⟨h, by omega⟩
 ·obtain ⟨g1, g2⟩ := key p r s x y e1 e2 (by omega)
  exact .inr ⟨h, by omega⟩

end Go.Proofs.YtpabbnddeklpdaaGreat

namespace Go.Proofs.YtpabbnddeklpdaaGreat
open Go.RowKit
set_option linter.unusedVariables false

def RowOk (bs : List Nat) : Prop := 1 ≤ bs.length ∧ bs.length ≤ 256
theorem rowOk_ord {bs : List Nat} (h : RowOk bs) : (ordL bs).length ≤ 514 := by
 have := ordL_len bs
 have c : bs.count 0 ≤ bs.length := List.count_le_length
 have := h.2
 omega

set_option maxRecDepth 100000 in
theorem refOut_out (n lo hi : Int) (w : World) (h : n < lo ∨ hi < n) : Calls Tryz.prog 72 #[.int .i64 n, .int .i64 lo, .int .i64 hi] w fun e w' => e = .returned (.bool true) ∧ w' = w := by
 by_cases h1 : n < lo
 ·have d1 : decide (n < lo) = true := by simpa using h1
  clear h
  go_enter Tryz.func72, Tryz.ntmps72
  go_wp2
  go_ret
  exact ⟨by first | rfl | simp [d1], rfl⟩
 ·have d1 : decide (n < lo) = false := by simpa using h1
  have h2 : hi < n := by omega
  have d2 : decide (hi < n) = true := by simpa using h2
  clear h
  go_enter Tryz.func72, Tryz.ntmps72
  go_wp2
  go_ret
  exact ⟨by first | rfl | simp [d1, d2], rfl⟩
set_option maxRecDepth 100000 in
theorem refNumber_any (a b : Int) (w : World) : Calls Tryz.prog 49 #[.int .i64 a, .int .i64 b] w fun e w' => e = .returned (.int .i64 (cmpI a b)) ∧ w' = w := by
 by_cases h1 : a < b
 ·go_enter Tryz.func49, Tryz.ntmps49
  go_wp2
  go_ret
  exact ⟨by unfold cmpI; rw [if_pos (by omega)]; rfl, rfl⟩
 ·have h1' : b ≤ a := by omega
  by_cases h2 : b < a
  ·go_enter Tryz.func49, Tryz.ntmps49
   go_wp2
   go_ret
   exact ⟨by unfold cmpI; rw [if_neg (by omega), if_pos (by omega)]; rfl, rfl⟩
  ·have h2' : a ≤ b := by omega
   go_enter Tryz.func49, Tryz.ntmps49
   go_wp2
   go_ret
   exact ⟨by unfold cmpI; rw [if_neg (by omega), if_neg (by omega)]; rfl, rfl⟩
set_option maxRecDepth 100000 in
set_option maxHeartbeats 1000000 in
theorem refBytesOrd_any {va vb : Value} {xs ys : List Nat} {w : World} (ha : Rd w va xs) (hb : Rd w vb ys) :
  Calls Tryz.prog 48 #[va, vb] w fun e w' => e = .returned (.int .i64 (ordC xs ys)) ∧ Below w.heap.size w w' := by
 obtain ⟨a, n, cap, rfl⟩ := rd_slice ha
 obtain ⟨b, m, capb, rfl⟩ := rd_slice hb
 obtain ⟨hn, _, _, hn48⟩ := rd_lens ha
 obtain ⟨hm, _, _, hm48⟩ := rd_lens hb
 have HN : Hid (n = xs.length) := hn
 have HM : Hid (m = ys.length) := hm
 clear hn hm
 go_enter Tryz.func48, Tryz.ntmps48
 go_wp2
 go_loopw [5] (fun i wr => ∃ t : Nat, t ≤ n ∧ t ≤ m ∧ i = .int .i64 (t : Int) ∧ ordC xs ys = ordC (xs.drop t) (ys.drop t) ∧ Below w.heap.size w wr) (fun i _ => n - (intOf i).toNat)
 case atStart => exact ⟨0, by omega, by omega, rfl, rfl, Below.refl _ _⟩
 case round =>
  obtain ⟨t, htn, htm, rfl, hord, hbk⟩ := hrel
  have HO : Hid (ordC xs ys = ordC (xs.drop t) (ys.drop t)) := hord
  clear hord
  by_cases hin : t < n ∧ t < m
  ·obtain ⟨h1, h2⟩ := hin
   have h1' : (t : Int) < (n : Int) := by omega
   have h2' : (t : Int) < (m : Int) := by omega
   rcases rd_some ha with ⟨_, h0, _⟩ | ⟨ba, oa, rfl⟩
   ·omega
   rcases rd_some hb with ⟨_, h0, _⟩ | ⟨bb, ob, rfl⟩
   ·omega
   obtain ⟨ca0, cal⟩ := rd_cell ha t h1
   obtain ⟨cb0, cbl⟩ := rd_cell hb t h2
   have ca : wr.cell? ⟨ba, oa + t, none⟩ = some (.int .u8 ((xs.getD t 0 : Nat) : Int)) := by
    rw [hbk.cell (p := ⟨ba, oa + t, none⟩) (World.block_lt_of_cell? w _ ca0)]; exact ca0
   have cb : wr.cell? ⟨bb, ob + t, none⟩ = some (.int .u8 ((ys.getD t 0 : Nat) : Int)) := by
    rw [hbk.cell (p := ⟨bb, ob + t, none⟩) (World.block_lt_of_cell? w _ cb0)]; exact cb0
   have da := drop_cons xs t (by rw [← HN.out]; exact h1)
   have db := drop_cons ys t (by rw [← HM.out]; exact h2)
   obtain ⟨x, hx⟩ : ∃ x, x = xs.getD t 0 := ⟨_, rfl⟩
   obtain ⟨y, hy⟩ : ∃ y, y = ys.getD t 0 := ⟨_, rfl⟩
   rw [← hx] at ca cal da
   rw [← hy] at cb cbl db
   have HOO : Hid (ordC xs ys = if x < y then -1 else if y < x then 1 else ordC (xs.drop (t + 1)) (ys.drop (t + 1))) := by
    unfold Hid; rw [HO.out, da, db]; rfl
   clear hx hy da db ca0 cb0
   have ht0 : (0 : Int) ≤ (t : Int) := by omega
   by_cases hxy : x < y
   ·have hxy' : (x : Int) < (y : Int) := by omega
    have HR : Hid (ordC xs ys = -1) := by unfold Hid; rw [HOO.out, if_pos hxy]
    go_wp2
    go_quiet (fail)
    go_wp2
    go_ret
    rw [HR.out]
    exact ⟨rfl, below_drewN hbk _⟩
   ·have hxy' : (y : Int) ≤ (x : Int) := by omega
    by_cases hyx : y < x
    ·have hyx' : (y : Int) < (x : Int) := by omega
     have HR : Hid (ordC xs ys = 1) := by unfold Hid; rw [HOO.out, if_neg hxy, if_pos hyx]
     go_wp2
     go_quiet (fail)
     go_wp2
     go_quiet (fail)
     go_wp2
     go_ret
     rw [HR.out]
     exact ⟨rfl, below_drewN (below_drewN hbk _) _⟩
    ·have hyx' : (x : Int) ≤ (y : Int) := by omega
     have HR : Hid (ordC xs ys = ordC (xs.drop (t + 1)) (ys.drop (t + 1))) := by unfold Hid; rw [HOO.out, if_neg hxy, if_neg hyx]
     go_wp2
     go_quiet (fail)
     go_wp2
     go_quiet (fail)
     go_wp2
     go_roundw
     case rel => exact ⟨t + 1, by omega, by omega, by go_num, HR.out, below_drewN hbk _⟩
     case measure => simp [intOf]; omega
  ·have HR : Hid (ordC xs ys = if n < m then -1 else if m < n then 1 else 0) := by
    unfold Hid
    rw [HO.out]
    by_cases h1 : t < n
    ·have h2 : m = t := by
      by_cases h : t < m
      ·exact absurd ⟨h1, h⟩ hin
      ·omega
     have e1 : ys.drop t = [] := by rw [← h2, HM.out]; simp
     rw [e1, drop_cons xs t (by rw [← HN.out]; exact h1), if_neg (by omega), if_pos (by omega)]
     rfl
    ·have h1' : n = t := by omega
     have e1 : xs.drop t = [] := by rw [← h1', HN.out]; simp
     rw [e1]
     by_cases h2 : t < m
     ·rw [drop_cons ys t (by rw [← HM.out]; exact h2), if_pos (by omega)]
      rfl
     ·have e2 : ys.drop t = [] := by rw [show t = m by omega, HM.out]; simp
      rw [e2, if_neg (by omega), if_neg (by omega)]
      rfl
   by_cases h1 : t < n
   ·have h1' : (t : Int) < (n : Int) := by omega
    have h2' : (m : Int) ≤ (t : Int) := by
     by_cases h : t < m
     ·exact absurd ⟨h1, h⟩ hin
     ·omega
    have hR := HR.out
    rw [if_neg (by omega), if_pos (by omega)] at hR
    have HR2 : Hid (ordC xs ys = 1) := hR
    clear hR hin
    have hd2 : decide ((t : Int) < (m : Int)) = false := by simp; omega
    go_wp2_with fail
    refine (refNumber_any _ _ _).mono ?_
    rintro e w9 ⟨rfl, rfl⟩
    rw [show cmpI (n : Int) (m : Int) = 1 by unfold cmpI; rw [if_neg (by omega), if_pos (by omega)]]
    go_wp2
    go_ret
    rw [HR2.out]
    exact ⟨rfl, hbk⟩
   ·have h1' : (n : Int) ≤ (t : Int) := by omega
    have hd : decide ((t : Int) < (n : Int)) = false := by simp; omega
    clear hin
    by_cases hnm : n < m
    ·have hnm' : (n : Int) < (m : Int) := by omega
     have hR := HR.out
     rw [if_pos hnm] at hR
     have HR2 : Hid (ordC xs ys = -1) := hR
     clear hR
     go_wp2_with fail
     refine (refNumber_any _ _ _).mono ?_
     rintro e w9 ⟨rfl, rfl⟩
     rw [show cmpI (n : Int) (m : Int) = -1 by unfold cmpI; rw [if_pos (by omega)]]
     go_wp2
     go_ret
     rw [HR2.out]
     exact ⟨rfl, hbk⟩
    ·have hnm' : (m : Int) ≤ (n : Int) := by omega
     have hmn' : (n : Int) ≤ (m : Int) := by omega
     have hR := HR.out
     rw [if_neg hnm, if_neg (by omega)] at hR
     have HR2 : Hid (ordC xs ys = 0) := hR
     clear hR
     go_wp2_with fail
     refine (refNumber_any _ _ _).mono ?_
     rintro e w9 ⟨rfl, rfl⟩
     rw [show cmpI (n : Int) (m : Int) = 0 by unfold cmpI; rw [if_neg (by omega), if_neg (by omega)]]
     go_wp2
     go_ret
     rw [HR2.out]
     exact ⟨rfl, hbk⟩


theorem ordC_prefix (a x : List Nat) : ordC a (a ++ x) = if x = [] then 0 else -1 := by
 induction a with
 | nil => cases x <;> simp [ordC]
 | cons c a ih => simp [ordC, ih]
theorem ordC_app (a x y : List Nat) : ordC (a ++ x) (a ++ y) = ordC x y := by
 induction a with
 | nil => rfl
 | cons c a ih => simp [ordC, ih]
theorem key_rest {e : EntD} (hc : checkS e = 0) : ∃ f r, keyL e = ordL e.row ++ f :: r ∧ f < 255 := by
 have := (check_facts hc).2.1
 refine ⟨e.fam.toNat, _, by rw [keyL_parts]; rfl, by omega⟩
theorem own_begins {e : EntD} (hc : checkS e = 0) (r : List Nat) : (e.row = r) ↔ ((ordL r).length ≤ (keyL e).length ∧ (keyL e).take (ordL r).length = ordL r) := by
 obtain ⟨f, q, hk, hf⟩ := key_rest hc
 constructor
 ·rintro rfl
  rw [hk]
  simp
 ·rintro ⟨h1, h2⟩
  by_cases h : ordC r e.row = 0
  ·exact (ordC_eq _ _ h).symm
  ·exfalso
   have e1 : keyL e = ordL r ++ (keyL e).drop (ordL r).length := by
    conv => lhs; rw [← List.take_append_drop (ordL r).length (keyL e)]
    rw [h2]
   have e2 := ordC_ordL r e.row ((keyL e).drop (ordL r).length) (f :: q) h
   rw [← hk, ← e1, ordC_self] at e2
   exact h e2.symm
theorem own_inside {e : EntD} (hc : checkS e = 0) (r : List Nat) : (e.row = r) ↔ (ordC (ordL r) (keyL e) ≤ 0 ∧ ordC (keyL e) (ordL r ++ [255]) < 0) := by
 obtain ⟨f, q, hk, hf⟩ := key_rest hc
 constructor
 ·rintro rfl
  rw [hk, ordC_prefix, ordC_app]
  constructor
  ·simp
  ·simp only [ordC]; rw [if_pos hf]; decide
 ·rintro ⟨h1, h2⟩
  by_cases h : ordC r e.row = 0
  ·exact (ordC_eq _ _ h).symm
  ·exfalso
   have e1 := ordC_ordL r e.row [] (f :: q) h
   have e2 := ordC_ordL e.row r (f :: q) [255] (by rw [ordC_swap]; omega)
   rw [List.append_nil, ← hk] at e1
   have e3 := ordC_swap r e.row
   rw [← hk, e3] at e2
   rw [e1] at h1
   rw [e2] at h2
   omega
end Go.Proofs.YtpabbnddeklpdaaGreat
