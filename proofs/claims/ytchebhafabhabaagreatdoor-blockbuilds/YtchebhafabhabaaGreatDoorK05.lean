import Derived.Test.YtchebhafabhabaaGreatDoorK04
import Derived.Lib.SmallJoins
namespace Go.Proofs.YtchebhafabhabaaGreatDoor
open Go.RowKit
set_option linter.unusedVariables false

set_option maxRecDepth 100000 in
set_option maxHeartbeats 1000000 in
theorem refUint_any (v : Nat) (hv : v < 18446744073709551616) (w : World) :
  Calls Tryz.prog 59 #[.int .u64 (v : Int)] w fun e w' => ∃ a m c, e = .returned (.slice a m c) ∧ Own w' w.heap.size (.slice a m c) m (uintL v) ∧ Below w.heap.size w w' := by
 go_enter Tryz.func59, Tryz.ntmps59
 go_wp2
 go_loopw [0, 3] (fun x s wr => ∃ (u f : Nat) (acc : List Nat) (a : Option Addr) (m c : Nat), x = .int .u64 (u : Int) ∧ u < 128 ^ (f + 1) ∧ u < 18446744073709551616 ∧ acc.length + f = 9 ∧ uintL v = acc ++ uintF f u ∧ s = .slice a m c ∧ Own wr w.heap.size (.slice a m c) m acc ∧ m ≤ 9 ∧ Below w.heap.size w wr)
  (fun x _ _ => (intOf x).toNat)
 case atStart => exact ⟨v, 9, [], _, _, _, rfl, by omega, hv, rfl, rfl, rfl, ⟨rfl, World.ownsRow_nil _ _ _ _⟩, by omega, Below.refl _ _⟩
 case round =>
  obtain ⟨u, f, acc, a1, m1, c1, rfl, hu, hu2, hacc, hl, rfl, own1, hm9, hb⟩ := hrel
  have HL : Hid (uintL v = acc ++ uintF f u) := hl
  have HU : Hid (u < 128 ^ (f + 1)) := hu
  have HA : Hid (acc.length + f = 9) := hacc
  clear hl hu hacc
  have hbs := hb.size
  by_cases hgt : 127 < u
  ·have hgt2 : (127 : Int) < (u : Int) := by omega
   obtain ⟨f', hf'⟩ : ∃ f', f = f' + 1 := ⟨f - 1, by
    have h1 : f ≠ 0 := by
     intro h0
     have := HU.out
     rw [h0] at this
     omega
    omega⟩
   have HF : Hid (f = f' + 1) := hf'
   clear hf'
   go_wp2_with (at_builtin; refine wpList_append_new rfl (.tmp 6) _ rfl w.heap.size a1 m1 c1 _ rfl own1 [_] 1 rfl [u % 128 + 128] (by first | rfl | (simp [bv]; done) | (simp [bv]; omega)) rfl (by omega) hbs ?_; intro a3 m3 c3 w3 own3 hb3)
   go_roundw
   case rel =>
    refine ⟨u / 128, f', acc ++ [u % 128 + 128], a3, m3, c3, by go_num, ?_, by omega, by have := HA.out; have := HF.out; simp; omega, ?_, rfl, own3, by have := HA.out; have := HF.out; rw [own3.1]; simp; omega, hb.trans hb3⟩
    ·have := HU.out
     rw [HF.out, Nat.pow_succ] at this
     exact Nat.div_lt_of_lt_mul (by rw [Nat.mul_comm]; exact this)
    ·rw [HL.out, HF.out, uintF_go f' u hgt]; simp
   case measure => simp [intOf]; omega
  ·have hgt2 : (u : Int) ≤ 127 := by omega
   go_wp2_with (at_builtin; refine wpList_append_new rfl (.tmp 15) _ rfl w.heap.size a1 m1 c1 _ rfl own1 [_] 1 rfl [u] (by first | rfl | (simp [bv]; done) | (simp [bv]; omega)) rfl (by omega) hbs ?_; intro a3 m3 c3 w3 own3 hb3)
   go_ret
   refine ⟨a3, m3, c3, rfl, ?_, hb.trans hb3⟩
   rw [HL.out, uintF_stop f u (by omega)]
   exact own3

set_option maxRecDepth 100000 in
set_option maxHeartbeats 1000000 in
theorem refBytes_any {v : Value} {bs : List Nat} {w : World} (hr : Rd w v bs) (hl : bs.length ≤ 140737488355312) :
  Calls Tryz.prog 60 #[v] w fun e w' => ∃ a m c, e = .returned (.slice a m c) ∧ Own w' w.heap.size (.slice a m c) m (bytesL bs) ∧ Below w.heap.size w w' := by
 obtain ⟨a, n, cap, rfl⟩ := rd_slice hr
 obtain ⟨hn, hle, hm, hl48⟩ := rd_lens hr
 rw [← hn] at hl
 have HN : Hid (n = bs.length) := hn
 clear hn
 have hn64 : n < 18446744073709551616 := by omega
 have hem : (n : Int) % 18446744073709551616 = (n : Int) := by omega
 have HU : ∀ m : Nat, m = (uintL n).length → m ≤ 10 := fun m h => by have := (uintL_len n).2; omega
 go_enter Tryz.func60, Tryz.ntmps60
 go_wp2_with fail
 refine (refUint_any n hn64 _).mono ?_
 rintro e w1 ⟨a1, m1, c1, rfl, own1, hb1⟩
 go_wp2_with (at_builtin; refine wpList_append_at rfl _ _ rfl w.heap.size a1 m1 c1 _ rfl own1 a n cap bs rfl (hr.later hb1) (by have := HU m1 own1.1; omega) hb1.size ?_; intro a5 m5 c5 w5 own5 hb5)
 go_ret
 refine ⟨a5, m5, c5, rfl, ?_, hb1.trans hb5⟩
 unfold bytesL
 rw [← HN.out]
 exact own5

end Go.Proofs.YtchebhafabhabaaGreatDoor

namespace Go.Proofs.YtchebhafabhabaaGreatDoor
open Go.RowKit
set_option linter.unusedVariables false

theorem heap_new (w : World) (o : Obj) : (w.alloc o).heap[w.heap.size]? = some o := by
 show (w.heap.push o)[w.heap.size]? = some o
 simp

theorem own_one (w : World) (B x : Nat) (hB : B ≤ w.heap.size) : Own (w.alloc (.cells #[.int .u8 (x : Int)] 5)) B (.slice (some ⟨w.heap.size, 0, none⟩) 1 1) 1 [x] := by
 refine ⟨rfl, rfl, .inr ⟨w.heap.size, 1, #[.int .u8 (x : Int)], rfl, hB, heap_new w _, Nat.le_refl _, by decide, rfl, rfl⟩⟩

end Go.Proofs.YtchebhafabhabaaGreatDoor

namespace Go.Proofs.YtchebhafabhabaaGreatDoor
open Go.RowKit
set_option linter.unusedVariables false

theorem own_one' (w : World) (B x : Nat) (z : Int) (hz : z = (x : Int)) (hB : B ≤ w.heap.size) : Own (w.alloc (.cells #[.int .u8 z] 5)) B (.slice (some ⟨w.heap.size, 0, none⟩) 1 1) 1 [x] := by
 subst hz; exact own_one w B x hB
theorem be8_step (V t : Nat) (h : t < 8) : (be8 V).drop (8 - (t + 1)) = [V / 256 ^ t % 256] ++ (be8 V).drop (8 - t) := by
 have hl : (be8 V).length = 8 := rfl
 rw [drop_cons' (be8 V) (8 - (t + 1)) (by rw [hl]; omega), be8_get V _ (by omega), show 8 - (t + 1) + 1 = 8 - t by omega, show 7 - (8 - (t + 1)) = t by omega, Nat.pow_mul]
 rfl

set_option maxRecDepth 100000 in
set_option maxHeartbeats 1000000 in
theorem eight_any (V : Nat) (hV : V < 18446744073709551616) (w : World) :
  Calls Tryz.prog 126 #[.int .u64 (V : Int)] w fun e w' => ∃ a m c, e = .returned (.slice a m c) ∧ Own w' w.heap.size (.slice a m c) m (be8 V) ∧ Below w.heap.size w w' := by
 have HB8 : Hid (∀ t, ((be8 V).drop (8 - t)).length ≤ t) := fun t => by rw [List.length_drop]; have : (be8 V).length = 8 := rfl; omega
 have HBY : Hid (∀ t, Bys ((be8 V).drop (8 - t))) := fun t x hx => be8_bys V x (List.mem_of_mem_drop hx)
 go_enter Tryz.func126, Tryz.ntmps126
 go_wp2
 go_loopw [0, 3, 4] (fun x s i wr => ∃ (t u : Nat) (a : Option Addr) (m c : Nat), t ≤ 8 ∧ x = .int .u64 (u : Int) ∧ u = V / 256 ^ t ∧ i = .int .i64 (t : Int) ∧ s = .slice a m c ∧ Own wr w.heap.size (.slice a m c) m ((be8 V).drop (8 - t)) ∧ Below w.heap.size w wr) (fun _ _ i _ => 8 - (intOf i).toNat)
 case atStart => exact ⟨0, V, _, _, _, by omega, rfl, by simp, rfl, rfl, ⟨rfl, World.ownsRow_nil _ _ _ _⟩, Below.refl _ _⟩
 case round =>
  obtain ⟨t, u, a1, m1, c1, ht, rfl, hu, rfl, rfl, own1, hb⟩ := hrel
  have HU : Hid (u = V / 256 ^ t) := hu
  have hu64 : u < 18446744073709551616 := by rw [hu]; exact Nat.lt_of_le_of_lt (Nat.div_le_self _ _) hV
  clear hu
  have hbs := hb.size
  have hm1 : m1 ≤ t := by rw [own1.1]; exact HB8.out t
  by_cases hlt : t < 8
  ·have hlt2 : (t : Int) < 8 := by omega
   have r1 := own1.rd (HBY.out t) (by omega)
   have HST : Hid ((be8 V).drop (8 - (t + 1)) = [u % 256] ++ (be8 V).drop (8 - t)) := by unfold Hid; rw [be8_step V t hlt, HU.out]
   go_wp2_with (at_builtin; refine wpList_append_at rfl (.tmp 12) _ rfl w.heap.size (some ⟨wr.heap.size, 0, none⟩) 1 1 [u % 256] rfl (own_one' wr w.heap.size (u % 256) _ (by first | rfl | omega | (simp; done) | (simp; omega)) hbs) a1 m1 c1 _ rfl (r1.later ((Below.refl _ _).alloc (Nat.le_refl _) _)) (by omega) (by simp; omega) ?_; intro a3 m3 c3 w3 own3 hb3)
   go_roundw
   case rel => exact ⟨t + 1, u / 256, a3, m3, c3, by omega, by go_num, by rw [HU.out, Nat.div_div_eq_div_mul, Nat.pow_succ], by go_num, rfl, by rw [HST.out]; exact own3, hb.trans (((Below.refl w.heap.size wr).alloc hbs _).trans hb3)⟩
   case measure => simp [intOf]; omega
  ·have hge : (8 : Int) ≤ (t : Int) := by omega
   have ht8 : t = 8 := by omega
   have HT : Hid (t = 8) := ht8
   clear ht8
   go_wp2
   go_ret
   refine ⟨a1, m1, c1, rfl, ?_, hb⟩
   have h := own1
   rw [HT.out] at h
   simpa using h

set_option maxRecDepth 100000 in
set_option maxHeartbeats 400000 in
theorem refRising_any (n : Nat) (hn : n < 9223372036854775808) (w : World) :
  Calls Tryz.prog 117 #[.int .i64 (n : Int)] w fun e w' => ∃ a m c, e = .returned (.tuple #[.slice a m c, .int .i64 0]) ∧ Own w' w.heap.size (.slice a m c) m (be8 n) ∧ Below w.heap.size w w' := by
 have h0 : (0 : Int) ≤ (n : Int) := by omega
 have hem : (n : Int) % 18446744073709551616 = (n : Int) := by omega
 go_enter Tryz.func117, Tryz.ntmps117
 go_wp2_with fail
 refine (eight_any n (by omega) _).mono ?_
 rintro e w1 ⟨a1, m1, c1, rfl, own1, hb1⟩
 go_wp2
 go_ret2
 exact ⟨a1, m1, c1, rfl, own1, hb1⟩
theorem refRising_at (z : Int) (n : Nat) (hz : z = (n : Int)) (hn : n < 9223372036854775808) (w : World) :
  Calls Tryz.prog 117 #[.int .i64 z] w fun e w' => ∃ a m c, e = .returned (.tuple #[.slice a m c, .int .i64 0]) ∧ Own w' w.heap.size (.slice a m c) m (be8 n) ∧ Below w.heap.size w w' := by
 subst hz; exact refRising_any n hn w
set_option maxRecDepth 100000 in
set_option maxHeartbeats 400000 in
theorem refFalling_any (n : Nat) (hn : n < 9223372036854775808) (w : World) :
  Calls Tryz.prog 106 #[.int .i64 (n : Int)] w fun e w' => ∃ a m c, e = .returned (.tuple #[.slice a m c, .int .i64 0]) ∧ Own w' w.heap.size (.slice a m c) m (be8 (9223372036854775807 - n)) ∧ Below w.heap.size w w' := by
 have h0 : (0 : Int) ≤ (n : Int) := by omega
 have h1 : (n : Int) ≤ 9223372036854775807 := by omega
 have HS : Hid ((9223372036854775807 : Int) - (n : Int) = ((9223372036854775807 - n : Nat) : Int)) := by unfold Hid; omega
 go_enter Tryz.func106, Tryz.ntmps106
 go_wp2_with fail
 refine (refRising_at _ (9223372036854775807 - n) HS.out (by omega) _).mono ?_
 rintro e w1 ⟨a1, m1, c1, rfl, own1, hb1⟩
 go_wp2
 go_ret2
 exact ⟨a1, m1, c1, rfl, own1, hb1⟩

end Go.Proofs.YtchebhafabhabaaGreatDoor

namespace Go.Proofs.YtchebhafabhabaaGreatDoor
open Go.RowKit
set_option linter.unusedVariables false

def plainD (vr vq vv : Value) : EntD := ⟨vr, 1, vq, 5, 32, 1, vv, [114], [113], [118]⟩
def zeroD : EntD := ⟨.slice none 0 0, 0, .slice none 0 0, 0, 0, 0, .slice none 0 0, [], [], []⟩
theorem rd_one {w : World} {g x : Nat} (h : w.cell? ⟨g, 0, none⟩ = some (.int .u8 (x : Int))) (hx : x < 256) : Rd w (.slice (some ⟨g, 0, none⟩) 1 1) [x] :=
 ⟨fun y hy => by simp at hy; omega, _, 1, rfl, Nat.le_refl _, by decide, by simp, .inr ⟨g, 0, rfl⟩, .inr ⟨g, 0, rfl, fun i hi => by
  obtain rfl : i = 0 := by simp at hi; omega
  simpa using h⟩⟩
theorem three (w : World) (E : EntD) : ∃ w4, w4 = (((w.alloc (.cells E.cells 40)).alloc (.cells #[.int .u8 114] 5 (1, 2))).alloc (.cells #[.int .u8 113] 5 (1, 2))).alloc (.cells #[.int .u8 118] 5 (1, 2)) ∧ EBox w4 w.heap.size E ∧
  w4.cell? ⟨w.heap.size + 1, 0, none⟩ = some (.int .u8 114) ∧ w4.cell? ⟨w.heap.size + 2, 0, none⟩ = some (.int .u8 113) ∧ w4.cell? ⟨w.heap.size + 3, 0, none⟩ = some (.int .u8 118) ∧ Below w.heap.size w w4 := by
 have A1 := (Below.refl w.heap.size w).alloc (Nat.le_refl _) (.cells E.cells 40)
 have b1 := EBox.new w E
 have s1 : (w.alloc (.cells E.cells 40)).heap.size = w.heap.size + 1 := by simp
 obtain ⟨w1, hw1⟩ : ∃ w1, w1 = w.alloc (.cells E.cells 40) := ⟨_, rfl⟩
 rw [← hw1] at A1 b1 s1
 have A2 := (Below.refl w1.heap.size w1).alloc (Nat.le_refl _) (.cells #[.int .u8 114] 5 (1, 2))
 have s2 : (w1.alloc (.cells #[.int .u8 114] 5 (1, 2))).heap.size = w.heap.size + 2 := by simp [s1]
 have c2 : (w1.alloc (.cells #[.int .u8 114] 5 (1, 2))).cell? ⟨w.heap.size + 1, 0, none⟩ = some (.int .u8 114) := by rw [Joins.cell_alloc_mark_at _ _ _ _ _ _ s1.symm]; rfl
 obtain ⟨w2, hw2⟩ : ∃ w2, w2 = w1.alloc (.cells #[.int .u8 114] 5 (1, 2)) := ⟨_, rfl⟩
 rw [← hw2] at A2 s2 c2
 have A3 := (Below.refl w2.heap.size w2).alloc (Nat.le_refl _) (.cells #[.int .u8 113] 5 (1, 2))
 have s3 : (w2.alloc (.cells #[.int .u8 113] 5 (1, 2))).heap.size = w.heap.size + 3 := by simp [s2]
 have c3 : (w2.alloc (.cells #[.int .u8 113] 5 (1, 2))).cell? ⟨w.heap.size + 2, 0, none⟩ = some (.int .u8 113) := by rw [Joins.cell_alloc_mark_at _ _ _ _ _ _ s2.symm]; rfl
 obtain ⟨w3, hw3⟩ : ∃ w3, w3 = w2.alloc (.cells #[.int .u8 113] 5 (1, 2)) := ⟨_, rfl⟩
 rw [← hw3] at A3 s3 c3
 have A4 := (Below.refl w3.heap.size w3).alloc (Nat.le_refl _) (.cells #[.int .u8 118] 5 (1, 2))
 have c4 : (w3.alloc (.cells #[.int .u8 118] 5 (1, 2))).cell? ⟨w.heap.size + 3, 0, none⟩ = some (.int .u8 118) := by rw [Joins.cell_alloc_mark_at _ _ _ _ _ _ s3.symm]; rfl
 obtain ⟨w4, hw4⟩ : ∃ w4, w4 = w3.alloc (.cells #[.int .u8 118] 5 (1, 2)) := ⟨_, rfl⟩
 rw [← hw4] at A4 c4
 refine ⟨w4, by rw [hw4, hw3, hw2, hw1], ((b1.later A2).later A3).later A4, ?_, ?_, c4, ((A1.trans (A2.mono A1.size)).trans (A3.mono (by omega))).trans (A4.mono (by omega))⟩
 ·rw [A4.cell (p := ⟨w.heap.size + 1, 0, none⟩) (by simp; omega), A3.cell (p := ⟨w.heap.size + 1, 0, none⟩) (by simp; omega)]; exact c2
 ·rw [A4.cell (p := ⟨w.heap.size + 2, 0, none⟩) (by simp; omega)]; exact c3

def plainK : List Nat := [114, 0, 1, 1, 1, 113, 0, 1, 1, 127, 255, 255, 255, 255, 255, 255, 250, 127, 255, 255, 255, 255, 255, 255, 223, 1]
set_option maxRecDepth 100000 in
theorem refOut_in (n lo hi : Int) (w : World) (h1 : lo ≤ n) (h2 : n ≤ hi) : Calls Tryz.prog 83 #[.int .i64 n, .int .i64 lo, .int .i64 hi] w fun e w' => e = .returned (.bool false) ∧ w' = w := by
 have d1 : decide (n < lo) = false := by simpa using h1
 have d2 : decide (hi < n) = false := by simpa using h2
 go_enter Tryz.func83, Tryz.ntmps83
 go_wp2
 go_ret
 exact ⟨by first | rfl | simp [d1, d2], rfl⟩

end Go.Proofs.YtchebhafabhabaaGreatDoor

namespace Go.Proofs.YtchebhafabhabaaGreatDoor
open Go.RowKit
set_option linter.unusedVariables false

theorem wpList_append_gr {w : World} {ops : Array Oper} {rest : List Oper} {o : Oper} {a : Act} {Q : Exit → Act → World → Prop} (hgd : o.guard = none) (s x : Operand)
  (ho : o.op = .call { callee := .builtin .append, args := #[s, x], argTypes := #[36, 36] })
  (B : Nat) (a0 : Option Addr) (m0 c0 : Nat) (acc : List Nat) (hs : a.eval s = .slice a0 m0 c0) (hown : Own w B (.slice a0 m0 c0) m0 acc)
  (ao : Option Addr) (m c : Nat) (bs : List Nat) (hx : a.eval x = .slice ao m c) (hrd : Rd w (.slice ao m c) bs)
  (hbytes : m0 + m ≤ 140737488355328) (hB : B ≤ w.heap.size)
  (h : ∀ a' m' c' w', Own w' B (.slice a' m' c') m' (acc ++ bs) → Below B w w' → w.grownBy w' (Value.slice a0 m0 c0).ownBlock → wpList Tryz.prog ops Q rest (a.put o.dst (.slice a' m' c')) w') : wpList Tryz.prog ops Q (o :: rest) a w := by
 obtain ⟨i0, hi, hz0, hz1, hz2⟩ := info_parts info_byte
 obtain ⟨hby, a1, c1, h2, hle, hm, hl48, hnone, hat⟩ := hrd
 simp only [Value.slice.injEq] at h2
 obtain ⟨rfl, rfl, rfl⟩ := h2
 cases ao with
 | none =>
  have hb0 : bs = [] ∧ c = 0 := by
   rcases hnone with h | ⟨b, off, h⟩
   ·exact ⟨List.eq_nil_of_length_eq_zero (by omega), h⟩
   ·cases h
  obtain ⟨rfl, rfl⟩ := hb0
  refine wpList_append_own_none hgd s x 36 ho B 5 i0 1 und_bytes hi _ _ _ hs hown.2 (by simpa using hx) ?_
  exact h _ _ _ _ (by simpa using hown) (Below.refl _ _) (World.grownBy.refl _ _)
 | some ad =>
  refine wpList_append_own _ hgd s x 36 ho B 5 i0 (.int .u8 0) 1 1 und_bytes hi hz0 hz1 hz2 rfl (by decide) _ m0 (bv acc) hs hown.2 ad bs.length c (bv bs) hx (by simp [bv]) hat.add (bv_oneCell bs) (by unfold maxLen; omega) (by omega) hB ?_
  intro v' w' h1 h2 _
  obtain ⟨a', c', rfl⟩ := own_form h1
  refine h a' _ c' w' ⟨by rw [hown.1]; simp, by simpa [bv] using h1⟩ ((Below.refl B w).grown h2 hB (fun k hk => (hown.2.lt k hk).1)) h2


theorem Own.grown {w w' : World} {B m : Nat} {v : Value} {o : Option Nat} {xs : List Nat} (h : Own w B v m xs) (k : w.grownBy w' o) (hne : ∀ g, o = some g → g < B) : Own w' B v m xs := by
 refine ⟨h.1, h.2.1, ?_⟩
 rcases h.2.2 with h2 | ⟨g, cap, cur, h3, h4, h5, h6⟩
 ·exact .inl h2
 ·refine .inr ⟨g, cap, cur, h3, h4, ?_, h6⟩
  rw [k.block g (Array.getElem?_eq_some_iff.1 h5).1 ?_]
  ·exact h5
  ·intro e
   have := hne g e.symm
   omega

end Go.Proofs.YtchebhafabhabaaGreatDoor

namespace Go.Proofs.YtchebhafabhabaaGreatDoor
open Go.RowKit
set_option linter.unusedVariables false

theorem take_eq {xs ys : List Nat} {t : Nat} (h1 : t < xs.length) (h2 : t < ys.length) (h : xs.take t = ys.take t) (he : xs.getD t 0 = ys.getD t 0) : xs.take (t + 1) = ys.take (t + 1) := by
 rw [List.take_add_one, List.take_add_one, h, List.getElem?_eq_getElem h1, List.getElem?_eq_getElem h2]
 simp [List.getD, List.getElem?_eq_getElem h1, List.getElem?_eq_getElem h2] at he
 simp [he]

end Go.Proofs.YtchebhafabhabaaGreatDoor

namespace Go.Proofs.YtchebhafabhabaaGreatDoor
open Go.RowKit
set_option linter.unusedVariables false

theorem EBox.cells7 {w : World} {g : Nat} {e : EntD} (h : EBox w g e) : w.cell? ⟨g, 0, none⟩ = some e.vr ∧ w.cell? ⟨g, 1, none⟩ = some (.int .i64 e.fam) ∧ w.cell? ⟨g, 2, none⟩ = some e.vq ∧ w.cell? ⟨g, 3, none⟩ = some (.int .i64 e.ts) ∧ w.cell? ⟨g, 4, none⟩ = some (.int .i64 e.seq) ∧ w.cell? ⟨g, 5, none⟩ = some (.int .i64 e.kind) ∧ w.cell? ⟨g, 6, none⟩ = some e.vv := ⟨h.vr, h.fam, h.vq, h.ts, h.seq, h.kind, h.vv⟩
def badD (vr vq vv : Value) (seq : Int) : EntD := ⟨vr, 1, vq, 0, seq, 1, vv, [114], [113], [118]⟩
end Go.Proofs.YtchebhafabhabaaGreatDoor

namespace Go.Proofs.YtchebhafabhabaaGreatDoor
open Go.RowKit
set_option linter.unusedVariables false

def Dif (xs ys : List Nat) (c : Int) : Prop :=
 (c = 0 ∧ xs = ys) ∨ (c = -1 ∧ ∃ p x y r s, xs = p ++ x :: r ∧ ys = p ++ y :: s ∧ x < y) ∨ (c = 1 ∧ ∃ p x y r s, xs = p ++ x :: r ∧ ys = p ++ y :: s ∧ y < x)
theorem Dif.more {xs ys : List Nat} {c : Int} (h : Dif xs ys c) (hc : c ≠ 0) (u v : List Nat) : Dif (xs ++ u) (ys ++ v) c := by
 rcases h with ⟨h, _⟩ | ⟨h, p, x, y, r, s, rfl, rfl, hx⟩ | ⟨h, p, x, y, r, s, rfl, rfl, hx⟩
 ·exact absurd h hc
 ·exact .inr (.inl ⟨h, p, x, y, r ++ u, s ++ v, by simp, by simp, hx⟩)
 ·exact .inr (.inr ⟨h, p, x, y, r ++ u, s ++ v, by simp, by simp, hx⟩)
theorem Dif.ahead {u v : List Nat} {c : Int} (h : Dif u v c) (xs : List Nat) : Dif (xs ++ u) (xs ++ v) c := by
 rcases h with ⟨h, rfl⟩ | ⟨h, p, x, y, r, s, rfl, rfl, hx⟩ | ⟨h, p, x, y, r, s, rfl, rfl, hx⟩
 ·exact .inl ⟨h, rfl⟩
 ·exact .inr (.inl ⟨h, xs ++ p, x, y, r, s, by simp, by simp, hx⟩)
 ·exact .inr (.inr ⟨h, xs ++ p, x, y, r, s, by simp, by simp, hx⟩)
theorem Dif.cons {xs ys u v : List Nat} {c : Int} {l : List Int} (h : Dif xs ys c) (k : c = 0 → Dif u v (firstNZ l)) : Dif (xs ++ u) (ys ++ v) (firstNZ (c :: l)) := by
 unfold firstNZ
 by_cases hc : c = 0
 ·rw [if_pos hc]
  rcases h with ⟨_, rfl⟩ | ⟨h, _⟩ | ⟨h, _⟩
  ·exact (k hc).ahead xs
  ·omega
  ·omega
 ·rw [if_neg hc]
  exact h.more hc u v
theorem dif_ordC : ∀ (xs ys : List Nat), (¬ xs <+: ys ∧ ¬ ys <+: xs) ∨ xs = ys → Dif xs ys (ordC xs ys)
 | [], ys, h => by
  rcases h with h | rfl
  ·exact absurd (List.nil_prefix) h.1
  ·exact .inl ⟨ordC_self _, rfl⟩
 | x :: xs, [], h => by
  rcases h with h | h
  ·exact absurd (List.nil_prefix) h.2
  ·cases h
 | x :: xs, y :: ys, h => by
  unfold ordC
  by_cases h1 : x < y
  ·rw [if_pos h1]
   exact .inr (.inl ⟨rfl, [], x, y, xs, ys, rfl, rfl, h1⟩)
  ·rw [if_neg h1]
   by_cases h2 : y < x
   ·rw [if_pos h2]
    exact .inr (.inr ⟨rfl, [], x, y, xs, ys, rfl, rfl, h2⟩)
   ·rw [if_neg h2]
    obtain rfl : x = y := by omega
    have := dif_ordC xs ys (by
     rcases h with ⟨h3, h4⟩ | h
     ·exact .inl ⟨fun k => h3 (List.cons_prefix_cons.2 ⟨rfl, k⟩), fun k => h4 (List.cons_prefix_cons.2 ⟨rfl, k⟩)⟩
     ·exact .inr (by simpa using h))
    exact this.ahead [x]
theorem dif_len {xs ys : List Nat} (h : xs.length = ys.length) : Dif xs ys (ordC xs ys) := by
 refine dif_ordC xs ys ?_
 by_cases e : xs = ys
 ·exact .inr e
 ·exact .inl ⟨fun k => e (k.eq_of_length h), fun k => e (k.eq_of_length h.symm).symm⟩
theorem dif_ordL (a b : List Nat) : Dif (ordL a) (ordL b) (ordC a b) := by
 rw [← ordC_ordL0]
 refine dif_ordC _ _ ?_
 by_cases e : ordC a b = 0
 ·exact .inr (by rw [ordC_eq a b e])
 ·have e2 : ordC b a ≠ 0 := by rw [ordC_swap]; omega
  exact .inl ⟨fun k => ordL_free a b e ⟨k.length_le, (List.prefix_iff_eq_take.1 k)⟩, fun k => ordL_free b a e2 ⟨k.length_le, (List.prefix_iff_eq_take.1 k)⟩⟩
theorem dif_one (m n : Nat) : Dif [m] [n] (cmpI (m : Int) (n : Int)) := by
 have e : ordC [m] [n] = cmpI (m : Int) (n : Int) := by
  simp only [ordC, cmpI]
  repeat' split
  all_goals omega
 rw [← e]
 exact dif_len rfl
theorem dif_fall (m n : Nat) (hm : m < 9223372036854775808) (hn : n < 9223372036854775808) : Dif (be8 (9223372036854775807 - m)) (be8 (9223372036854775807 - n)) (cmpI (n : Int) (m : Int)) := by
 have e : ordC (be8 (9223372036854775807 - m)) (be8 (9223372036854775807 - n)) = cmpI (n : Int) (m : Int) := by
  rw [ordC_be8 _ _ (by omega) (by omega)]
  simp only [cmpN, cmpI]
  repeat' split
  all_goals omega
 rw [← e]
 exact dif_len rfl

theorem keyL_parts (e : EntD) : keyL e = ordL e.row ++ ([e.fam.toNat] ++ ([mark e.kind 5] ++ ((if e.kind = 5 then [] else ordL e.qual ++ [mark e.kind 4]) ++ (be8 (9223372036854775807 - e.ts.toNat) ++ (be8 (9223372036854775807 - e.seq.toNat) ++ ([e.kind.toNat] ++ [])))))) := by
 simp [keyL]

theorem key_dif {a b : EntD} (ha : checkS a = 0) (hb : checkS b = 0) : Dif (keyL a) (keyL b) (compareS a b) := by
 obtain ⟨_, fa, _, qa, ta, sa, ka, _⟩ := check_facts ha
 obtain ⟨_, fb, _, qb, tb, sb, kb, _⟩ := check_facts hb
 rw [keyL_parts, keyL_parts]
 unfold compareS cmpsS
 have tail : Dif (be8 (9223372036854775807 - a.ts.toNat) ++ (be8 (9223372036854775807 - a.seq.toNat) ++ ([a.kind.toNat] ++ []))) (be8 (9223372036854775807 - b.ts.toNat) ++ (be8 (9223372036854775807 - b.seq.toNat) ++ ([b.kind.toNat] ++ []))) (firstNZ [cmpI b.ts a.ts, cmpI b.seq a.seq, cmpI a.kind b.kind]) := by
  have d1 := dif_fall a.ts.toNat b.ts.toNat (by omega) (by omega)
  have d2 := dif_fall a.seq.toNat b.seq.toNat (by omega) (by omega)
  have d3 := dif_one a.kind.toNat b.kind.toNat
  rw [Int.toNat_of_nonneg (by omega), Int.toNat_of_nonneg (by omega)] at d1 d2 d3
  exact d1.cons fun _ => d2.cons fun _ => d3.cons fun _ => .inl ⟨rfl, rfl⟩
 have dm := dif_one a.fam.toNat b.fam.toNat
 rw [Int.toNat_of_nonneg (by omega), Int.toNat_of_nonneg (by omega)] at dm
 refine (dif_ordL a.row b.row).cons fun _ => dm.cons fun _ => (dif_one _ _).cons fun h5 => ?_
 by_cases k5 : a.kind = 5
 ·by_cases l5 : b.kind = 5
  ·rw [if_pos k5, if_pos l5, qa k5, qb l5]
   have e : aheadS a b 4 = 0 := by simp [aheadS, mark, k5, l5, cmpI]
   rw [e]
   simpa [firstNZ, ordC] using tail
  ·exfalso
   simp [mark, k5, l5, cmpI] at h5
 ·by_cases l5 : b.kind = 5
  ·exfalso
   simp [mark, k5, l5, cmpI] at h5
  ·rw [if_neg k5, if_neg l5, List.append_assoc, List.append_assoc]
   exact (dif_ordL a.qual b.qual).cons fun _ => (dif_one _ _).cons fun _ => tail

end Go.Proofs.YtchebhafabhabaaGreatDoor

namespace Go.Proofs.YtchebhafabhabaaGreatDoor
open Go.RowKit
set_option linter.unusedVariables false

theorem key_any {e : EntD} {w : World} (hok : EntD.Ok w e) :
  Calls Tryz.prog 50 #[.agg e.cells] w fun r w' => ∃ a m c, ∃ E : Nat, r = .returned (.tuple #[.slice a m c, .int .i64 (E : Int)]) ∧ E = checkS e ∧ (E = 0 → Own w' w.heap.size (.slice a m c) m (keyL e)) ∧ Below w.heap.size w w' := by
 by_cases hc : checkS e = 0
 ·refine (key_ok hok hc).mono ?_
  rintro r w' ⟨a, m, c, rfl, own, hb⟩
  exact ⟨a, m, c, 0, rfl, hc.symm, fun _ => own, hb⟩
 ·refine (key_bad hok hc).mono ?_
  rintro r w' ⟨rfl, hb⟩
  exact ⟨none, 0, 0, checkS e, rfl, rfl, fun h => absurd h hc, hb⟩
theorem keyL_bys {e : EntD} (hr : Bys e.row) (hq : Bys e.qual) (hc : checkS e = 0) : Bys (keyL e) := by
 obtain ⟨_, f, _, _, t, s, k, _⟩ := check_facts hc
 rw [keyL_parts]
 have m5 : ∀ a b : Int, mark a b < 256 := by intro a b; unfold mark; split <;> omega
 refine Bys.app (ordL_bys _ hr) (Bys.app (fun x hx => by simp at hx; omega) (Bys.app (fun x hx => by simp at hx; rw [hx]; exact m5 _ _) (Bys.app ?_ (Bys.app (be8_bys _) (Bys.app (be8_bys _) (Bys.app (fun x hx => by simp at hx; omega) (fun x hx => by simp at hx)))))))
 split
 ·intro x hx; simp at hx
 ·exact Bys.app (ordL_bys _ hq) (fun x hx => by simp at hx; rw [hx]; exact m5 _ _)
theorem keyL_len {e : EntD} (hc : checkS e = 0) : (keyL e).length ≤ 2000 := by
 obtain ⟨f1, f, f3, _, t, s, k, _⟩ := check_facts hc
 rw [keyL_parts]
 have l1 := ordL_len e.row
 have l2 := ordL_len e.qual
 have c1 : e.row.count 0 ≤ e.row.length := List.count_le_length
 have c2 : e.qual.count 0 ≤ e.qual.length := List.count_le_length
 split <;> simp [be8] <;> omega

end Go.Proofs.YtchebhafabhabaaGreatDoor
