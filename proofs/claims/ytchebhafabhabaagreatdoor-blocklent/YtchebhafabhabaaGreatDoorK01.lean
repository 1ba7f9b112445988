import Derived.Test.YtchebhafabhabaaGreatDoorK00
import Derived.Shelf.Bytes.SlCountOne
namespace Go.Proofs.YtchebhafabhabaaGreatDoor
open Go.RowKit
set_option linter.unusedVariables false

def be8 (n : Nat) : List Nat := [n / 2 ^ 56 % 256, n / 2 ^ 48 % 256, n / 2 ^ 40 % 256, n / 2 ^ 32 % 256, n / 2 ^ 24 % 256, n / 2 ^ 16 % 256, n / 2 ^ 8 % 256, n % 256]
theorem be8_bys (n : Nat) : Bys (be8 n) := by intro x hx; simp [be8] at hx; omega
theorem be8_get (n t : Nat) (h : t < 8) : (be8 n).getD t 0 = n / 2 ^ (8 * (7 - t)) % 256 := by
 match t, h with
 | 0, _ => rfl
 | 1, _ => rfl
 | 2, _ => rfl
 | 3, _ => rfl
 | 4, _ => rfl
 | 5, _ => rfl
 | 6, _ => rfl
 | 7, _ => simp [be8]
def fill8 (n t : Nat) : List Nat := (be8 n).take t ++ List.replicate (8 - t) 0
theorem fill8_len (n t : Nat) (h : t ≤ 8) : (fill8 n t).length = 8 := by simp [fill8, be8]; omega
theorem fill8_next (n t : Nat) (h : t < 8) : (fill8 n t).set t ((be8 n).getD t 0) = fill8 n (t + 1) := by
 match t, h with
 | 0, _ => rfl
 | 1, _ => rfl
 | 2, _ => rfl
 | 3, _ => rfl
 | 4, _ => rfl
 | 5, _ => rfl
 | 6, _ => rfl
 | 7, _ => rfl

set_option maxRecDepth 100000 in
set_option maxHeartbeats 1000000 in
theorem rising_any (n : Nat) (hn : n < 9223372036854775808) (w : World) :
  Calls Tryz.prog 121 #[.int .i64 (n : Int)] w fun e w' => ∃ a m c, e = .returned (.tuple #[.slice a m c, .int .i64 0]) ∧ Own w' w.heap.size (.slice a m c) m (be8 n) ∧ Below w.heap.size w w' := by
 have h0 : (0 : Int) ≤ (n : Int) := by omega
 have hmk : ∀ w, (Instr.makeSlice 36 (.int .i64 8) (.int .i64 8)).run Tryz.prog w = .ok (.slice (some ⟨w.heap.size, 0, none⟩) 8 8) (w.alloc (.cells #[.int .u8 0, .int .u8 0, .int .u8 0, .int .u8 0, .int .u8 0, .int .u8 0, .int .u8 0, .int .u8 0] 5)) := fun _ => by kernel_rfl
 go_enter Tryz.func121, Tryz.ntmps121
 go_wp2
 go_loopw [11] (fun i wr => ∃ t, t ≤ 8 ∧ i = .int .i64 ((t : Nat) : Int) ∧ Own wr w.heap.size (.slice (some ⟨w.heap.size, 0, none⟩) 8 8) 8 (fill8 n t) ∧ Below w.heap.size w wr) (fun i _ => 8 - (intOf i).toNat)
 case atStart =>
  refine ⟨0, by omega, rfl, ⟨rfl, ?_⟩, (Below.refl _ _).alloc (Nat.le_refl _) _⟩
  exact ⟨rfl, .inr ⟨w.heap.size, 8, _, rfl, Nat.le_refl _, heap_alloc_new w _, by omega, by unfold maxLen; omega, rfl, rfl⟩⟩
 case round =>
  obtain ⟨t, htl, rfl, ownk, hbk⟩ := hrel
  by_cases hlt : t < 8
  ·have hlt2 : (t : Int) < 8 := by omega
   have hfz := ownk.2.frozenAt t
   have hcell : wr.cell? ⟨w.heap.size, t, none⟩ = some (.int .u8 (((fill8 n t).getD t 0 : Nat) : Int)) := by
    rw [ownk.2.cellAt t (by omega)]
    simp [bv, List.getElem?_eq_getElem (show t < (fill8 n t).length by rw [fill8_len n t (by omega)]; exact hlt)]
   obtain ⟨y, hy⟩ : ∃ y, y = (fill8 n t).getD t 0 := ⟨_, rfl⟩
   rw [← hy] at hcell
   clear hy
   have HOWN : Hid (Own wr w.heap.size (.slice (some ⟨w.heap.size, 0, none⟩) 8 8) 8 (fill8 n t)) := ownk
   have HBK : Hid (Below w.heap.size w wr) := hbk
   clear ownk hbk
   have hvv : ((n : Int) / 2 ^ (8 * (7 - t)) % 256) = (((be8 n).getD t 0 : Nat) : Int) := by
    rw [be8_get n t hlt]; simp
   have HVV : Hid (((n : Int) / 2 ^ (8 * (7 - t)) % 256) = (((be8 n).getD t 0 : Nat) : Int)) := hvv
   clear hvv
   go_wp2
   go_roundw
   case rel =>
    have st := HOWN.out.2.stored t (.int .u8 ((n : Int) / 2 ^ (8 * (7 - t)) % 256))
    refine ⟨t + 1, by omega, by go_num, ⟨by rw [fill8_len n (t + 1) (by omega)], ?_⟩, HBK.out.setCell (p := ⟨w.heap.size, t, none⟩) (Nat.le_refl _) _⟩
    have := st.1
    rw [HVV.out] at this ⊢
    have e : bv (fill8 n (t + 1)) = (bv (fill8 n t)).set t (.int .u8 (((be8 n).getD t 0 : Nat) : Int)) := by
     rw [← fill8_next n t hlt]
     simp [bv, List.map_set]
    rw [e]
    exact this
   case measure => simp [intOf]; omega
  ·have hge : (8 : Int) ≤ (t : Int) := by omega
   obtain rfl : t = 8 := by omega
   have e : fill8 n 8 = be8 n := rfl
   rw [e] at ownk
   go_wp2
   go_ret2
   exact ⟨_, _, _, rfl, ownk, hbk⟩

theorem rising_at (z : Int) (n : Nat) (hz : z = (n : Int)) (hn : n < 9223372036854775808) (w : World) :
  Calls Tryz.prog 121 #[.int .i64 z] w fun e w' => ∃ a m c, e = .returned (.tuple #[.slice a m c, .int .i64 0]) ∧ Own w' w.heap.size (.slice a m c) m (be8 n) ∧ Below w.heap.size w w' := by
 subst hz; exact rising_any n hn w

set_option maxRecDepth 100000 in
set_option maxHeartbeats 400000 in
theorem falling_any (n : Nat) (hn : n < 9223372036854775808) (w : World) :
  Calls Tryz.prog 110 #[.int .i64 (n : Int)] w fun e w' => ∃ a m c, e = .returned (.tuple #[.slice a m c, .int .i64 0]) ∧ Own w' w.heap.size (.slice a m c) m (be8 (9223372036854775807 - n)) ∧ Below w.heap.size w w' := by
 have h0 : (0 : Int) ≤ (n : Int) := by omega
 have h1 : (n : Int) ≤ 9223372036854775807 := by omega
 obtain ⟨q, hq⟩ : ∃ q, q = 9223372036854775807 - n := ⟨_, rfl⟩
 have HQ : Hid (((9223372036854775807 : Int) - (n : Int)) = (q : Int)) := by unfold Hid; omega
 have HQ2 : Hid (q < 9223372036854775808) := by unfold Hid; omega
 rw [← hq]
 clear hq
 go_enter Tryz.func110, Tryz.ntmps110
 go_wp2_with fail
 refine (rising_at _ q HQ.out HQ2.out _).mono ?_
 rintro e w1 ⟨a1, m1, c1, rfl, own1, hb1⟩
 go_wp2
 go_ret2
 exact ⟨a1, m1, c1, rfl, own1, hb1⟩

def num8 (l : List Nat) : Nat := l.foldl (fun v c => v * 256 + c) 0
theorem num8_snoc (l : List Nat) (t : Nat) (h : t < l.length) : num8 (l.take (t + 1)) = num8 (l.take t) * 256 + l.getD t 0 := by
 rw [take_succ_getD l t h]
 simp [num8, List.foldl_append]
def riseR (bs : List Nat) (k : Nat) : Nat × Nat × Nat :=
 if bs.length < k + 8 then (0, 0, 10)
 else if 9223372036854775807 < num8 ((bs.drop k).take 8) then (0, 0, 13)
 else (num8 ((bs.drop k).take 8), k + 8, 0)

set_option maxRecDepth 100000 in
set_option maxHeartbeats 1000000 in
theorem readRising_in {v : Value} {bs : List Nat} {w : World} (hr : Rd w v bs) (k : Nat) (hk : k ≤ bs.length) :
  Calls Tryz.prog 139 #[v, .int .i64 (k : Int)] w fun e w' => e = .returned (.tuple #[.int .i64 (((riseR bs k).1 : Nat) : Int), .int .i64 (((riseR bs k).2.1 : Nat) : Int), .int .i64 (((riseR bs k).2.2 : Nat) : Int)]) ∧ w' = w := by
 obtain ⟨a, n, cap, rfl⟩ := rd_slice hr
 obtain ⟨hn, hle, hm, hl48⟩ := rd_lens hr
 rw [← hn] at hk
 have HN : Hid (n = bs.length) := hn
 clear hn
 unfold maxLen at hm
 have hk2 : (k : Int) ≤ (n : Int) := by omega
 have hk0 : (0 : Int) ≤ (k : Int) := by omega
 have hd : decide ((k : Int) < 0 ∨ (n : Int) < (k : Int)) = false := by simp; omega
 by_cases h8 : n < k + 8
 ·have hf : riseR bs k = (0, 0, 10) := by unfold riseR; rw [if_pos (by rw [← HN.out]; exact h8)]
  rw [hf]
  have e1 : (n : Int) - (k : Int) < 8 := by omega
  clear hf
  go_enter Tryz.func139, Tryz.ntmps139
  go_wp2_with fail
  refine (outside_any _ hl48).mono ?_
  rintro e w1 ⟨rfl, rfl⟩
  rw [hd]
  go_wp2
  go_ret3
  exact ⟨rfl, rfl⟩
 ·have e1 : (8 : Int) ≤ (n : Int) - (k : Int) := by omega
  rcases rd_some hr with ⟨_, h0, _⟩ | ⟨b, off, rfl⟩
  ·omega
  have hne : ¬ cap = k := by omega
  have rs := hr.sub k (k + 8) (by omega) (by omega) (off' := off + k) (n' := 8) (cap' := cap - k) rfl (by omega) rfl
  have eb : (bs.take (k + 8)).drop k = (bs.drop k).take 8 := by rw [List.drop_take]; congr 1; omega
  rw [eb] at rs
  obtain ⟨L, hL⟩ : ∃ L, L = (bs.drop k).take 8 := ⟨_, rfl⟩
  rw [← hL] at rs
  have hf : riseR bs k = if 9223372036854775807 < num8 L then (0, 0, 13) else (num8 L, k + 8, 0) := by
   unfold riseR; rw [if_neg (by rw [← HN.out]; exact h8), ← hL]
  have HL8 : Hid (L.length = 8) := by unfold Hid; rw [hL, List.length_take, List.length_drop, ← HN.out]; omega
  have HLB : Hid (Bys L) := rs.1
  obtain ⟨R, hR⟩ : ∃ R, R = riseR bs k := ⟨_, rfl⟩
  rw [← hR] at hf ⊢
  have HF : Hid (R = if 9223372036854775807 < num8 L then (0, 0, 13) else (num8 L, k + 8, 0)) := hf
  clear hR
  have hcells : ∀ t, t < 8 → w.cell? ⟨b, off + k + t, none⟩ = some (.int .u8 ((L.getD t 0 : Nat) : Int)) := fun t htt => (rd_cell rs t htt).1
  have HC : Hid (∀ t, t < 8 → w.cell? ⟨b, off + k + t, none⟩ = some (.int .u8 ((L.getD t 0 : Nat) : Int))) := hcells
  clear hf eb hL hcells rs hr
  go_enter Tryz.func139, Tryz.ntmps139
  go_wp2_with fail
  refine (outside_any _ hl48).mono ?_
  rintro e w1 ⟨rfl, rfl⟩
  rw [hd]
  go_wp2
  go_loop [7, 24] (fun x i => ∃ t q : Nat, t ≤ 8 ∧ i = .int .i64 (t : Int) ∧ x = .int .u64 (q : Int) ∧ q = num8 (L.take t) ∧ q < 256 ^ t) (fun _ i => 8 - (intOf i).toNat)
  case atStart => exact ⟨0, 0, by omega, rfl, rfl, rfl, by simp⟩
  case round =>
   obtain ⟨t, q, htl, rfl, rfl, hq, hql⟩ := hrel
   have HQ : Hid (q = num8 (L.take t)) := hq
   clear hq
   by_cases hlt : t < 8
   ·have hlt2 : (t : Int) < 8 := by omega
    have hq7 : q < 72057594037927936 := Nat.lt_of_lt_of_le hql (by
     have : 256 ^ t ≤ 256 ^ 7 := Nat.pow_le_pow_right (by omega) (by omega)
     exact Nat.le_trans this (by decide))
    have hc := HC.out t hlt
    have hcl := HLB.out.get t
    obtain ⟨c, hcd⟩ : ∃ c, c = L.getD t 0 := ⟨_, rfl⟩
    rw [← hcd] at hc hcl
    have HCD : Hid (c = L.getD t 0) := hcd
    have HQL : Hid (q < 256 ^ t) := hql
    clear hcd hql
    have em : (c : Int) % 18446744073709551616 = (c : Int) := by omega
    have hor : bits .or .u64 ((q : Int) * 256) (c : Int) = ((q * 256 + c : Nat) : Int) := by
     have := u64_or_nat (q * 256) c (by omega) (by omega)
     rw [nat_join 8 (q * 256) c (by omega) (by omega)] at this
     rw [← this]
     simp
    obtain ⟨r, hr⟩ : ∃ r, r = q * 256 + c := ⟨_, rfl⟩
    rw [← hr] at hor
    have HR : Hid (r = q * 256 + c) := hr
    clear hr
    go_wp2
    go_round
    case rel =>
     refine ⟨t + 1, r, by omega, by go_num, by first | rfl | rw [hor], ?_, ?_⟩
     ·rw [num8_snoc L t (by rw [HL8.out]; exact hlt), ← HQ.out, ← HCD.out]; exact HR.out
     ·rw [HR.out, Nat.pow_succ]; have := HQL.out; omega
    case measure => simp [intOf]; omega
   ·have hge : (8 : Int) ≤ (t : Int) := by omega
    obtain rfl : t = 8 := by omega
    have e8 : L.take 8 = L := List.take_of_length_le (by rw [HL8.out]; omega)
    have hqL := HQ.out
    rw [e8] at hqL
    have hq64 : q < 18446744073709551616 := hql
    have hRq := HF.out
    rw [← hqL] at hRq
    clear hql hqL e8
    by_cases hbig : 9223372036854775807 < q
    ·rw [if_pos hbig] at hRq
     have HRQ : Hid (R = (0, 0, 13)) := hRq
     clear hRq
     have hb2 : (9223372036854775807 : Int) < (q : Int) := by omega
     clear hbig
     go_wp2
     go_ret3
     rw [HRQ.out]
     exact ⟨rfl, rfl⟩
    ·rw [if_neg hbig] at hRq
     have HRQ : Hid (R = (q, k + 8, 0)) := hRq
     clear hRq
     have hb2 : (q : Int) ≤ 9223372036854775807 := by omega
     have hw : IntKind.i64.wrap (q : Int) = (q : Int) := by simp only [IntKind.wrap, IntKind.bits, IntKind.signed]; simp; omega
     have HE : Hid (((k : Int) + 8) = ((k + 8 : Nat) : Int)) := by unfold Hid; omega
     clear hbig
     go_wp2
     go_ret3
     rw [HRQ.out]
     refine ⟨?_, rfl⟩
     exact congrArg (fun z : Int => Ending.returned (Value.tuple #[Value.int .i64 (q : Int), Value.int .i64 z, Value.int .i64 0])) HE.out

theorem readRising_at {v : Value} {bs : List Nat} {w : World} (hr : Rd w v bs) (z : Int) (k : Nat) (hz : z = (k : Int)) (hk : k ≤ bs.length) {V P E : Nat} (h : riseR bs k = (V, P, E)) :
  Calls Tryz.prog 139 #[v, .int .i64 z] w fun e w' => e = .returned (.tuple #[.int .i64 (V : Int), .int .i64 (P : Int), .int .i64 (E : Int)]) ∧ w' = w := by
 subst hz
 have := readRising_in hr k hk
 rw [h] at this
 exact this

def fallR (bs : List Nat) (k : Nat) : Nat × Nat × Nat :=
 if (riseR bs k).2.2 ≠ 0 then (0, 0, (riseR bs k).2.2) else (9223372036854775807 - (riseR bs k).1, (riseR bs k).2.1, 0)
theorem riseR_lt (bs : List Nat) (k : Nat) : (riseR bs k).1 ≤ 9223372036854775807 ∧ (riseR bs k).2.2 ≤ 13 ∧ ((riseR bs k).2.2 ≠ 0 → (riseR bs k).2.1 = 0) ∧ (riseR bs k).2.1 ≤ k + 8 := by
 unfold riseR
 split
 ·simp
 ·split
  ·simp
  ·rename_i h1 h2
   refine ⟨by show num8 _ ≤ _; omega, by simp, by simp, by simp⟩

set_option maxRecDepth 100000 in
set_option maxHeartbeats 400000 in
theorem readFalling_in {v : Value} {bs : List Nat} {w : World} (hr : Rd w v bs) (k : Nat) (hk : k ≤ bs.length) :
  Calls Tryz.prog 136 #[v, .int .i64 (k : Int)] w fun e w' => e = .returned (.tuple #[.int .i64 (((fallR bs k).1 : Nat) : Int), .int .i64 (((fallR bs k).2.1 : Nat) : Int), .int .i64 (((fallR bs k).2.2 : Nat) : Int)]) ∧ w' = w := by
 have hl := riseR_lt bs k
 obtain ⟨R, hR⟩ : ∃ R, R = riseR bs k := ⟨_, rfl⟩
 obtain ⟨V, P, E⟩ := R
 rw [← hR] at hl
 simp only at hl
 have HR : Hid (riseR bs k = (V, P, E)) := hR.symm
 have HK : Hid (k ≤ bs.length) := hk
 clear hk
 by_cases hE : E = 0
 ·have hf : fallR bs k = (9223372036854775807 - V, P, 0) := by unfold fallR; rw [← hR]; simp [hE]
  rw [hf]
  subst hE
  have HV : Hid (((9223372036854775807 : Int) - (V : Int)) = ((9223372036854775807 - V : Nat) : Int)) := by unfold Hid; omega
  have hV : (V : Int) ≤ 9223372036854775807 := by omega
  clear hf hR hl
  go_enter Tryz.func136, Tryz.ntmps136
  go_wp2_with fail
  refine (readRising_at hr _ k rfl HK.out HR.out).mono ?_
  rintro e w1 ⟨rfl, rfl⟩
  go_wp2
  go_ret3
  refine ⟨?_, rfl⟩
  exact congrArg (fun z : Int => Ending.returned (Value.tuple #[Value.int .i64 z, Value.int .i64 (P : Int), Value.int .i64 0])) HV.out
 ·have hf : fallR bs k = (0, 0, E) := by unfold fallR; rw [← hR]; simp [hE]
  rw [hf]
  have e1 : ((E : Int) != 0) = true := by simp; omega
  clear hf hR hl
  go_enter Tryz.func136, Tryz.ntmps136
  go_wp2_with fail
  refine (readRising_at hr _ k rfl HK.out HR.out).mono ?_
  rintro e w1 ⟨rfl, rfl⟩
  go_wp2
  go_ret3
  exact ⟨rfl, rfl⟩

end Go.Proofs.YtchebhafabhabaaGreatDoor

namespace Go.Proofs.YtchebhafabhabaaGreatDoor
open Go.RowKit
set_option linter.unusedVariables false

theorem ints_at {w : World} {x : Addr} {bs : List Nat} (h : At w (some x) bs) : ∀ i, i < bs.length → w.cell? (x.add i) = some (.int .u8 ((bs.map fun n : Nat => (n : Int)).getD i 0)) := by
 intro i hi
 have := h.add i (.int .u8 ((bs.getD i 0 : Nat) : Int)) (by simp [bv, List.getElem?_eq_getElem hi])
 rw [this]
 simp [List.getElem?_eq_getElem hi]

theorem count_eq (bs : List Nat) (h : Bys bs) : Lib.countByte (Lib.bytesOf (bs.map fun n : Nat => (n : Int))) (0 : Int).toNat.toUInt8 = bs.count 0 := by
 unfold Lib.countByte Lib.bytesOf
 induction bs with
 | nil => rfl
 | cons c r ih =>
  have hc := h c (by simp)
  have ih' := ih (fun x hx => h x (by simp [hx]))
  simp only [List.map_cons, List.count_cons]
  rw [ih']
  congr 1
  have e : (UInt8.ofNat ((c : Int)).toNat == (0 : Int).toNat.toUInt8) = (c == 0) := by
   rw [Int.toNat_natCast]
   by_cases h0 : c = 0
   ·subst h0; rfl
   ·have : UInt8.ofNat c ≠ (0 : Int).toNat.toUInt8 := by
     intro hh
     have h2 := congrArg UInt8.toNat hh
     simp at h2
     omega
    rw [beq_eq_false_iff_ne.2 this, beq_eq_false_iff_ne.2 h0]
  rw [e]

set_option maxRecDepth 100000 in
set_option maxHeartbeats 1000000 in
theorem count_any {v : Value} {bs : List Nat} {w : World} (hr : Rd w v bs) (g : Nat) (hg : w.cell? ⟨g, 0, none⟩ = some (.int .u8 0)) :
  Calls Tryz.prog 109 #[v, .slice (some ⟨g, 0, none⟩) 1 1] w fun e w' => e = .returned (.int .i64 ((bs.count 0 : Nat) : Int)) ∧ w' = w := by
 obtain ⟨hby, a, cap, rfl, hle, hm, hl48, hnone, hat⟩ := hr
 cases a with
 | none =>
  have hb0 : bs = [] ∧ cap = 0 := by
   rcases hnone with h | ⟨b, off, h⟩
   ·exact ⟨List.eq_nil_of_length_eq_zero (by omega), h⟩
   ·cases h
  obtain ⟨rfl, rfl⟩ := hb0
  go_enter Tryz.func109, Tryz.ntmps109
  go_wp2
  rw [run_callFunc_extern Tryz.func119 (by kernel_rfl) (by kernel_rfl) (by kernel_rfl) (e := Extern.BytealgCount.count) (by kernel_rfl), Lib.run_countNil w 0 0 0]
  simp only [Result.andThen]
  rw [Oper.upon_value]
  go_wp2
  go_ret
  exact ⟨rfl, rfl⟩
 | some x =>
  have hi := ints_at hat
  obtain ⟨n, hn⟩ : ∃ n, n = bs.length := ⟨_, rfl⟩
  have hc := Lib.run_countAt (P := Tryz.prog) w x n cap (bs.map fun n : Nat => (n : Int)) (by simp [hn]) (by rw [hn]; exact hi) 0
  rw [← hn]
  have HN : Hid (n = bs.length) := hn
  have HCT : Hid (Lib.countByte (Lib.bytesOf (bs.map fun n : Nat => (n : Int))) (0 : Int).toNat.toUInt8 = bs.count 0) := count_eq bs hby
  obtain ⟨C, hC⟩ : ∃ C, C = Lib.countByte (Lib.bytesOf (bs.map fun n : Nat => (n : Int))) (0 : Int).toNat.toUInt8 := ⟨_, rfl⟩
  rw [← hC] at hc
  have HC : Hid (C = bs.count 0) := by unfold Hid; rw [hC]; exact HCT.out
  clear hn hi hat hnone hle hl48 hC HCT
  go_enter Tryz.func109, Tryz.ntmps109
  go_wp2
  rw [run_callFunc_extern Tryz.func119 (by kernel_rfl) (by kernel_rfl) (by kernel_rfl) (e := Extern.BytealgCount.count) (by kernel_rfl), hc]
  simp only [Result.andThen]
  rw [Oper.upon_value]
  go_wp2
  go_ret
  rw [← HC.out]
  exact ⟨rfl, rfl⟩

def escL : List Nat → List Nat
 | [] => []
 | c :: r => if c = 0 then 0 :: 255 :: escL r else c :: escL r
def ordL (bs : List Nat) : List Nat := escL bs ++ [0, 1]
theorem escL_append (a b : List Nat) : escL (a ++ b) = escL a ++ escL b := by
 induction a with
 | nil => rfl
 | cons c a ih =>
  simp only [List.cons_append, escL]
  split <;> simp [ih]
theorem escL_len (bs : List Nat) : (escL bs).length = bs.length + bs.count 0 := by
 induction bs with
 | nil => rfl
 | cons c r ih =>
  simp only [escL, List.count_cons]
  by_cases h : c = 0
  ·subst h; simp [ih]; omega
  ·simp [h, ih]; omega
theorem ordL_len (bs : List Nat) : (ordL bs).length = bs.length + bs.count 0 + 2 := by unfold ordL; rw [List.length_append, escL_len]; rfl
theorem escL_bys (bs : List Nat) (h : Bys bs) : Bys (escL bs) := by
 induction bs with
 | nil => intro x hx; simp [escL] at hx
 | cons c r ih =>
  have ih' := ih (fun x hx => h x (by simp [hx]))
  have hc := h c (by simp)
  simp only [escL]
  split
  ·intro x hx
   simp only [List.mem_cons] at hx
   rcases hx with rfl | rfl | hx
   ·omega
   ·omega
   ·exact ih' x hx
  ·intro x hx
   simp only [List.mem_cons] at hx
   rcases hx with rfl | hx
   ·exact hc
   ·exact ih' x hx
theorem ordL_bys (bs : List Nat) (h : Bys bs) : Bys (ordL bs) := (escL_bys bs h).app (by intro x hx; simp at hx; omega)
theorem escL_le (bs : List Nat) (t : Nat) : (escL (bs.take t)).length ≤ (escL bs).length := by
 conv => rhs; rw [← List.take_append_drop t bs, escL_append]
 simp

theorem own_room {w : World} {B : Nat} {v : Value} {m n C m1 : Nat} {xs : List Nat} (h : Own w B v m (xs ++ [0])) (hm : m1 ≤ n + C) (hs : n + C + 2 ≤ 140737488355328) (h1 : m1 = xs.length) : m + 1 ≤ 140737488355328 := by
 have := h.1
 rw [List.length_append] at this
 simp at this
 omega

set_option maxRecDepth 100000 in
set_option maxHeartbeats 1000000 in
theorem ordered_any {v : Value} {bs : List Nat} {w : World} (hr : Rd w v bs) (hl : (ordL bs).length ≤ 140737488355328) :
  Calls Tryz.prog 88 #[v] w fun e w' => ∃ a m c, e = .returned (.slice a m c) ∧ Own w' w.heap.size (.slice a m c) m (ordL bs) ∧ Below w.heap.size w w' := by
 obtain ⟨i0, hi, hz0, hz1, hz2⟩ := info_parts info_byte
 obtain ⟨a, n, cap, rfl⟩ := rd_slice hr
 obtain ⟨hn, hle, hm, hl48⟩ := rd_lens hr
 have HN : Hid (n = bs.length) := hn
 have hol := ordL_len bs
 rw [← hn] at hol
 obtain ⟨C, hC⟩ : ∃ C, C = bs.count 0 := ⟨_, rfl⟩
 rw [← hC] at hol
 have hsum : n + C + 2 ≤ 140737488355328 := by omega
 have HC : Hid (C = bs.count 0) := hC
 have HOL : Hid ((ordL bs).length = n + C + 2) := hol
 clear hn hC hm hol hl
 have A1 := (Below.refl w.heap.size w).alloc (Nat.le_refl _) (.cells #[.int .u8 0] 5)
 have hg : (w.alloc (.cells #[.int .u8 0] 5)).cell? ⟨w.heap.size, 0, none⟩ = some (.int .u8 0) := news_new w [.int .u8 0] 5 0 _ rfl
 go_enter Tryz.func88, Tryz.ntmps88
 go_wp2_with fail
 refine (count_any (hr.later A1) _ hg).mono ?_
 rintro e w1 ⟨rfl, rfl⟩
 rw [← HC.out]
 have hs1 := A1.size
 clear hg
 go_wp2_with (at_make; refine wpList_make_own _ rfl _ _ 36 rfl w.heap.size 5 i0 (.int .u8 0) 1 und_bytes hi hz0 hz1 .i64 .i64 _ (n + C + 2) rfl rfl ?c0 ?c1 ?c2 ?c3 ?_)
 case c0 => omega
 case c1 => rw [hz2]; omega
 case c2 => unfold maxLen; omega
 case c3 => exact hs1
 intro w2 hown2 hg2
 have hb2 : Below w.heap.size w w2 := A1.grown hg2 hs1 (fun k hk => by simp at hk)
 clear hg2 A1 hs1
 have own2 : Own w2 w.heap.size (.slice (some ⟨w.heap.size + 1, 0, none⟩) 0 (n + C + 2)) 0 [] := ⟨rfl, hown2⟩
 clear hown2
 go_wp2
 go_loopw [3, 16] (fun s i wr => ∃ t a m c, t ≤ n ∧ i = .int .i64 ((t : Nat) : Int) ∧ s = .slice a m c ∧ Own wr w.heap.size (.slice a m c) m (escL (bs.take t)) ∧ Below w.heap.size w wr) (fun _ i _ => n - (intOf i).toNat)
 case atStart => exact ⟨0, _, _, _, Nat.zero_le _, rfl, rfl, own2, hb2⟩
 case round =>
  obtain ⟨t, a1, m1, c1, htl, rfl, rfl, own1, hb1⟩ := hrel
  have hs1 := hb1.size
  have hme := escL_le bs t
  have hm1 : m1 ≤ n + C := by
   rw [own1.1]
   have := HOL.out
   unfold ordL at this
   rw [List.length_append] at this
   simp at this
   omega
  clear hme
  by_cases hlt : t < n
  ·have hlt2 : (t : Int) < (n : Int) := by omega
   rcases rd_some hr with ⟨_, h0, _⟩ | ⟨b, off, rfl⟩
   ·omega
   obtain ⟨hcell0, hcl⟩ := rd_cell hr t hlt
   have hcell : wr.cell? ⟨b, off + t, none⟩ = some (.int .u8 ((bs.getD t 0 : Nat) : Int)) := by
    rw [hb1.cell (p := ⟨b, off + t, none⟩) (World.block_lt_of_cell? w _ hcell0)]; exact hcell0
   have htk := take_succ_getD bs t (by rw [← HN.out]; exact hlt)
   obtain ⟨c, hcd⟩ : ∃ c, c = bs.getD t 0 := ⟨_, rfl⟩
   rw [← hcd] at hcell hcl htk
   have HTK : Hid (bs.take (t + 1) = bs.take t ++ [c]) := htk
   clear hcd htk hcell0
   by_cases hc0 : c = 0
   ·subst hc0
    have HE : Hid (escL (bs.take (t + 1)) = (escL (bs.take t) ++ [0]) ++ [255]) := by
     unfold Hid; rw [HTK.out, escL_append]; simp [escL]
    go_wp2_with (first
     | (at_builtin; refine wpList_append_new rfl (.tmp 20) _ rfl w.heap.size a1 m1 c1 _ rfl own1 [_] 1 rfl [0] rfl rfl (by omega) hs1 ?_; intro a3 m3 c3 w3 own3 hb3)
     | (at_builtin; refine wpList_append_new rfl (.tmp 26) _ rfl w.heap.size a3 m3 c3 _ rfl own3 [_] 1 rfl [255] rfl rfl (own_room own3 hm1 hsum own1.1) (hb1.trans hb3).size ?_; intro a4 m4 c4 w4 own4 hb4))
    go_roundw
    case rel => exact ⟨t + 1, a4, m4, c4, by omega, by go_num, rfl, by rw [HE.out]; exact own4, (hb1.trans hb3).trans hb4⟩
    case measure => simp [intOf]; omega
   ·have HE : Hid (escL (bs.take (t + 1)) = escL (bs.take t) ++ [c]) := by
     unfold Hid; rw [HTK.out, escL_append]; simp [escL, hc0]
    have hcb : ((c : Int) == 0) = false := by simp; omega
    clear hc0
    go_wp2_with (at_builtin; refine wpList_append_new rfl (.tmp 20) _ rfl w.heap.size a1 m1 c1 _ rfl own1 [_] 1 rfl [c] rfl rfl (by omega) hs1 ?_; intro a3 m3 c3 w3 own3 hb3)
    go_roundw
    case rel => exact ⟨t + 1, a3, m3, c3, by omega, by go_num, rfl, by rw [HE.out]; exact own3, hb1.trans hb3⟩
    case measure => simp [intOf]; omega
  ·have hge : (n : Int) ≤ (t : Int) := by omega
   have HE : Hid (escL (bs.take t) = escL bs) := by unfold Hid; rw [List.take_of_length_le (by rw [← HN.out]; omega)]
   go_wp2_with (at_builtin; refine wpList_append_new rfl (.tmp 30) _ rfl w.heap.size a1 m1 c1 _ rfl own1 [_, _] 2 rfl [0, 1] rfl rfl (by omega) hs1 ?_; intro a3 m3 c3 w3 own3 hb3)
   go_ret
   refine ⟨a3, m3, c3, rfl, ?_, hb1.trans hb3⟩
   unfold ordL
   rw [← HE.out]
   exact own3

def zi : List Nat → Int
 | [] => -1
 | b :: l => if b = 0 then 0 else if zi l = -1 then -1 else zi l + 1
theorem zi_eq (bs : List Nat) (h : Bys bs) : Lib.indexByte (Lib.bytesOf (bs.map fun n : Nat => (n : Int))) (0 : Int).toNat.toUInt8 = zi bs := by
 induction bs with
 | nil => rfl
 | cons c r ih =>
  have hc := h c (by simp)
  have ih' := ih (fun x hx => h x (by simp [hx]))
  have hd : Lib.bytesOf ((c :: r).map fun n : Nat => (n : Int)) = UInt8.ofNat c :: Lib.bytesOf (r.map fun n : Nat => (n : Int)) := by simp [Lib.bytesOf]
  rw [hd]
  simp only [Lib.indexByte, zi]
  rw [ih']
  have e : (UInt8.ofNat c == (0 : Int).toNat.toUInt8) = (c == 0) := by
   by_cases h0 : c = 0
   ·subst h0; rfl
   ·have : UInt8.ofNat c ≠ (0 : Int).toNat.toUInt8 := by
     intro hh
     have h2 := congrArg UInt8.toNat hh
     simp at h2
     omega
    rw [beq_eq_false_iff_ne.2 this, beq_eq_false_iff_ne.2 h0]
  rw [e]
  by_cases h0 : c = 0
  ·simp [h0]
  ·simp [h0]
theorem run_index_any {P : Program} (w : World) (a : Addr) (n c : Nat) (xs : List Int) (hx : xs.length = n) (hc : ∀ i, i < n → w.cell? (a.add i) = some (.int .u8 (xs.getD i 0))) (cv : Int) :
  (Extern.BytealgIndexByte.indexByte #[.slice (some a) n c, .int .u8 cv]).run P w = .ok (.int .i64 (Lib.indexByte (Lib.bytesOf xs) cv.toNat.toUInt8)) w := by
 by_cases hn : n = 0
 ·subst hn
  have hx0 : xs = [] := List.eq_nil_of_length_eq_zero hx
  subst hx0
  have h1 := Lib.run_indexByteString (P := P) .empty cv w
  have hl := Lib.run_loadBytesX (P := P) w [] a .empty (fun j x hj => by simp at hj)
  change Sem.run P (do
   let b ← Extern.Bytes.bytesOf (.slice (some a) 0 c)
   let c ← Extern.Bytes.asByte (.int .u8 cv)
   match (List.range b.size).find? fun i => b[i]! == c with
   | some i => pure (goInt i)
   | none => pure (goInt (-1))) w = _
  rfl
 ·obtain ⟨b, off, spot⟩ := a
  have h0 := hc 0 (by omega)
  have hspot : spot = none := by simpa [Addr.add] using World.cell?_spot h0
  subst hspot
  refine Lib.run_indexByteSlice w b off n c xs hx (fun i hi => ?_) cv
  have e : (⟨b, off, none⟩ : Addr).add i = ⟨b, off + i, none⟩ := by unfold Addr.add; split <;> simp_all
  rw [← e]
  exact hc i hi

set_option maxRecDepth 100000 in
set_option maxHeartbeats 1000000 in
theorem indexByte_any {v : Value} {bs : List Nat} {w : World} (hr : Rd w v bs) :
  Calls Tryz.prog 128 #[v, .int .u8 0] w fun e w' => e = .returned (.int .i64 (zi bs)) ∧ w' = w := by
 obtain ⟨hby, a, cap, rfl, hle, hm, hl48, hnone, hat⟩ := hr
 cases a with
 | none =>
  have hb0 : bs = [] ∧ cap = 0 := by
   rcases hnone with h | ⟨b, off, h⟩
   ·exact ⟨List.eq_nil_of_length_eq_zero (by omega), h⟩
   ·cases h
  obtain ⟨rfl, rfl⟩ := hb0
  go_enter Tryz.func128, Tryz.ntmps128
  go_wp2
  rw [run_callFunc_extern Tryz.func137 (by kernel_rfl) (by kernel_rfl) (by kernel_rfl) (e := Extern.BytealgIndexByte.indexByte) (by kernel_rfl), Lib.run_indexByteNil w 0 0 0]
  simp only [Result.andThen]
  rw [Oper.upon_value]
  go_wp2
  go_ret
  exact ⟨rfl, rfl⟩
 | some x =>
  have hi := ints_at hat
  obtain ⟨n, hn⟩ : ∃ n, n = bs.length := ⟨_, rfl⟩
  have hc := run_index_any (P := Tryz.prog) w x n cap (bs.map fun n : Nat => (n : Int)) (by simp [hn]) (by rw [hn]; exact hi) 0
  rw [zi_eq bs hby] at hc
  rw [← hn]
  clear hn hi hat hnone hle hl48
  obtain ⟨Z, hZ⟩ : ∃ Z, Z = zi bs := ⟨_, rfl⟩
  rw [← hZ] at hc ⊢
  clear hZ
  go_enter Tryz.func128, Tryz.ntmps128
  go_wp2
  rw [run_callFunc_extern Tryz.func137 (by kernel_rfl) (by kernel_rfl) (by kernel_rfl) (e := Extern.BytealgIndexByte.indexByte) (by kernel_rfl), hc]
  simp only [Result.andThen]
  rw [Oper.upon_value]
  go_wp2
  go_ret
  exact ⟨rfl, rfl⟩

end Go.Proofs.YtchebhafabhabaaGreatDoor

namespace Go.Proofs.YtchebhafabhabaaGreatDoor
open Go.RowKit
set_option linter.unusedVariables false

def rord : List Nat → List Nat → Nat → List Nat × Nat × Nat
 | [], _, _ => ([], 0, 10)
 | [c], acc, i => ([], 0, 10)
 | c :: d :: r, acc, i => if c ≠ 0 then rord (d :: r) (acc ++ [c]) (i + 1) else if d = 1 then (acc, i + 2, 0) else if d = 255 then rord r (acc ++ [0]) (i + 2) else ([], 0, 11)
def ordR (bs : List Nat) (k : Nat) : List Nat × Nat × Nat :=
 ((rord (bs.drop k) [] 0).1, if (rord (bs.drop k) [] 0).2.2 = 0 then k + (rord (bs.drop k) [] 0).2.1 else 0, (rord (bs.drop k) [] 0).2.2)

theorem zi_neg (l : List Nat) : zi l < 0 → zi l = -1 ∧ ∀ acc i, rord l acc i = ([], 0, 10) := by
 induction l with
 | nil => intro _; exact ⟨rfl, fun _ _ => rfl⟩
 | cons c l ih =>
  intro h
  simp only [zi] at h ⊢
  by_cases hc : c = 0
  ·rw [if_pos hc] at h; omega
  ·rw [if_neg hc] at h ⊢
   by_cases hz : zi l = -1
   ·rw [if_pos hz] at h ⊢
    refine ⟨rfl, fun acc i => ?_⟩
    have := (ih (by omega)).2
    cases l with
    | nil => rfl
    | cons d r => unfold rord; rw [if_pos hc]; exact this _ _
   ·rw [if_neg hz] at h
    have : zi l = -1 := (ih (by omega)).1
    exact absurd this hz
theorem zi_pos (l : List Nat) (z : Nat) (h : zi l = (z : Int)) : z < l.length ∧ l.getD z 0 = 0 ∧ (∀ acc i, rord l acc i = rord (l.drop z) (acc ++ l.take z) (i + z)) := by
 induction l generalizing z with
 | nil => simp [zi] at h
 | cons c l ih =>
  simp only [zi] at h
  by_cases hc : c = 0
  ·rw [if_pos hc] at h
   have hz : z = 0 := by omega
   subst hz
   exact ⟨by simp, by simp [hc], fun acc i => by simp⟩
  ·rw [if_neg hc] at h
   by_cases hz : zi l = -1
   ·rw [if_pos hz] at h; omega
   ·rw [if_neg hz] at h
    have hz0 : ¬ zi l < 0 := fun hh => hz (zi_neg l hh).1
    obtain ⟨y, hy⟩ := Int.eq_ofNat_of_zero_le (show 0 ≤ zi l by omega)
    have hzy : z = y + 1 := by omega
    subst hzy
    obtain ⟨h1, h2, h3⟩ := ih y hy
    refine ⟨by simp; omega, by simpa using h2, fun acc i => ?_⟩
    cases l with
    | nil => simp at h1
    | cons d r =>
     have := h3 (acc ++ [c]) (i + 1)
     conv => lhs; unfold rord
     rw [if_pos hc, this]
     simp
     rw [show i + 1 + y = i + (y + 1) by omega]

theorem drop_cons' (l : List Nat) (t : Nat) (h : t < l.length) : l.drop t = l.getD t 0 :: l.drop (t + 1) := by
 rw [List.drop_eq_getElem_cons h]; simp [List.getD, List.getElem?_eq_getElem h]

theorem own_room2 {w : World} {B : Nat} {v : Value} {m m1 p z n : Nat} {xs ys : List Nat} (h : Own w B v m (xs ++ ys)) (hl : xs.length = m1 ∧ ys.length = z) (hmp : m1 ≤ p) (hp : (p : Int) + ((z : Int) + 2) ≤ (n : Int)) (hn : n ≤ 140737488355328) : m + 1 ≤ 140737488355328 := by
 have := h.1
 rw [List.length_append, hl.1, hl.2] at this
 omega

set_option maxRecDepth 100000 in
set_option maxHeartbeats 2000000 in
theorem readOrdered_in {v : Value} {bs : List Nat} {w : World} (hr : Rd w v bs) (k : Nat) (hk : k ≤ bs.length) (h47 : bs.length ≤ 140737488355328) :
  Calls Tryz.prog 134 #[v, .int .i64 (k : Int)] w fun e w' => ∃ a m c, e = .returned (.tuple #[.slice a m c, .int .i64 (((ordR bs k).2.1 : Nat) : Int), .int .i64 (((ordR bs k).2.2 : Nat) : Int)]) ∧ Own w' w.heap.size (.slice a m c) m (ordR bs k).1 ∧ Below w.heap.size w w' := by
 obtain ⟨a, n, cap, rfl⟩ := rd_slice hr
 obtain ⟨hn, hle, hm, hl48⟩ := rd_lens hr
 rw [← hn] at hk h47
 have HN : Hid (n = bs.length) := hn
 clear hn
 unfold maxLen at hm
 have hd : decide ((k : Int) < 0 ∨ (n : Int) < (k : Int)) = false := by simp; omega
 obtain ⟨R, hR⟩ : ∃ R, R = ordR bs k := ⟨_, rfl⟩
 rw [← hR]
 have HR : Hid (R = ordR bs k) := hR
 clear hR
 go_enter Tryz.func134, Tryz.ntmps134
 go_wp2_with fail
 refine (outside_any _ hl48).mono ?_
 rintro e w1 ⟨rfl, rfl⟩
 rw [hd]
 go_wp2
 go_loopw [1, 7] (fun x s wr => ∃ p a m c acc, k ≤ p ∧ p ≤ n ∧ x = .int .i64 ((p : Nat) : Int) ∧ s = .slice a m c ∧ Own wr w1.heap.size (.slice a m c) m acc ∧ m ≤ p ∧ rord (bs.drop k) [] 0 = rord (bs.drop p) acc (p - k) ∧ Below w1.heap.size w1 wr) (fun x _ _ => n - (intOf x).toNat)
 case atStart => exact ⟨k, _, _, _, [], Nat.le_refl _, hk, rfl, rfl, ⟨rfl, World.ownsRow_nil _ _ _ _⟩, Nat.zero_le _, by simp, Below.refl _ _⟩
 case round =>
  obtain ⟨p, a1, m1, c1, acc, hkp, hpn, rfl, rfl, own1, hmp, hro, hb1⟩ := hrel
  have HO : Hid (rord (bs.drop k) [] 0 = rord (bs.drop p) acc (p - k)) := hro
  clear hro
  have hs1 := hb1.size
  have hp0 : (0 : Int) ≤ (p : Int) := by omega
  have hpn2 : (p : Int) ≤ (n : Int) := by omega
  by_cases hcp : cap = p
  ·-- nothing is left
   have hnp : n = p := by omega
   have HRR : Hid (R = ([], 0, 10)) := by
    have hd0 : bs.drop p = [] := by rw [← hnp, HN.out]; simp
    unfold Hid
    rw [HR.out]
    unfold ordR
    rw [HO.out, hd0]
    rfl
   subst hnp
   subst hcp
   go_wp2_with fail
   refine (indexByte_any (Rd.zero _ a)).mono ?_
   rintro e w2 ⟨rfl, rfl⟩
   rw [show zi [] = -1 from rfl]
   go_wp2
   go_ret3
   rw [HRR.out]
   exact ⟨_, _, _, rfl, ⟨rfl, World.ownsRow_nil _ _ _ _⟩, hb1⟩
  ·rcases rd_some hr with ⟨h0, _⟩ | ⟨b, off, rfl⟩
   ·omega
   have rp := (hr.past p hpn (off' := off + p) rfl rfl rfl).later hb1
   have hlen : (bs.drop p).length = n - p := by rw [List.length_drop, ← HN.out]
   by_cases hz : zi (bs.drop p) < 0
   ·have HRR : Hid (R = ([], 0, 10)) := by
     unfold Hid
     rw [HR.out]
     unfold ordR
     rw [HO.out, (zi_neg _ hz).2]
     rfl
    have HZ : Hid (zi (bs.drop p) = -1) := (zi_neg _ hz).1
    clear hz hlen
    go_wp2_with fail
    refine (indexByte_any rp).mono ?_
    rintro e w2 ⟨rfl, rfl⟩
    rw [HZ.out]
    go_wp2
    go_ret3
    rw [HRR.out]
    exact ⟨_, _, _, rfl, ⟨rfl, World.ownsRow_nil _ _ _ _⟩, hb1⟩
   ·obtain ⟨z, hzz⟩ := Int.eq_ofNat_of_zero_le (show 0 ≤ zi (bs.drop p) by omega)
    obtain ⟨z1, z2, z3⟩ := zi_pos _ z hzz
    rw [hlen] at z1
    have HZ : Hid (zi (bs.drop p) = (z : Int)) := hzz
    have HO2 : Hid (rord (bs.drop k) [] 0 = rord ((bs.drop p).drop z) (acc ++ (bs.drop p).take z) (p - k + z)) := by unfold Hid; rw [HO.out]; exact z3 _ _
    have HZ0 : Hid ((bs.drop p).getD z 0 = 0) := z2
    clear hz hzz z2 z3
    have hzn : (0 : Int) ≤ (z : Int) := by omega
    have hdz : decide ((z : Int) < 0) = false := by simp
    by_cases hend : p + z + 1 = n
    ·have HRR : Hid (R = ([], 0, 10)) := by
      have e1 : (bs.drop p).drop z = [(bs.drop p).getD z 0] := by
       have e0 : (bs.drop p).drop (z + 1) = [] := List.drop_eq_nil_of_le (by rw [hlen]; omega)
       rw [drop_cons' (bs.drop p) z (by rw [hlen]; omega), e0]
      unfold Hid
      rw [HR.out]
      unfold ordR
      rw [HO2.out, e1]
      rfl
     have he : ((p : Int) + (z : Int) + 1 == (n : Int)) = true := by simp; omega
     clear hend hlen
     go_wp2_with fail
     refine (indexByte_any rp).mono ?_
     rintro e w2 ⟨rfl, rfl⟩
     rw [HZ.out]
     go_wp2
     go_ret3
     rw [HRR.out]
     exact ⟨_, _, _, rfl, ⟨rfl, World.ownsRow_nil _ _ _ _⟩, hb1⟩
    ·have he : ((p : Int) + (z : Int) + 1 == (n : Int)) = false := by simp; omega
     have rz := (hr.sub p (p + z) (by omega) (by omega) (off' := off + p) (n' := p + z - p) (cap' := cap - p) rfl rfl rfl).later hb1
     have ez : (bs.take (p + z)).drop p = (bs.drop p).take z := by rw [List.drop_take]; congr 1; omega
     rw [ez] at rz
     obtain ⟨hcd0, hcdl⟩ := rd_cell hr (p + z + 1) (by omega)
     obtain ⟨d, hdd⟩ : ∃ d, d = bs.getD (p + z + 1) 0 := ⟨_, rfl⟩
     rw [← hdd] at hcd0 hcdl
     have HD : Hid ((bs.drop p).drop z = 0 :: d :: bs.drop (p + z + 2)) := by
      unfold Hid
      rw [drop_cons' (bs.drop p) z (by rw [hlen]; omega), HZ0.out, drop_cons' (bs.drop p) (z + 1) (by rw [hlen]; omega)]
      have e1 : (bs.drop p).getD (z + 1) 0 = d := by rw [hdd]; simp [List.getD, Nat.add_assoc]
      rw [e1, List.drop_drop]
      simp [Nat.add_assoc]
     have hcd : wr.cell? ⟨b, off + (p + z + 1), none⟩ = some (.int .u8 (d : Int)) := by
      rw [hb1.cell (p := ⟨b, off + (p + z + 1), none⟩) (World.block_lt_of_cell? w1 _ hcd0)]; exact hcd0
     have hblk : b < w1.heap.size := World.block_lt_of_cell? w1 _ hcd0
     have HCD0 : Hid (w1.cell? ⟨b, off + (p + z + 1), none⟩ = some (.int .u8 (d : Int))) := hcd0
     have hpz3 : (p : Int) + ((z : Int) + 2) ≤ (n : Int) := by omega
     clear hdd hend hlen ez hcd0 hcd
     have hpz : (p : Int) ≤ (p : Int) + (z : Int) := by omega
     have hpz2 : (p : Int) + (z : Int) ≤ (cap : Int) := by omega
     go_wp2_with fail
     refine (indexByte_any rp).mono ?_
     rintro e w2 ⟨rfl, rfl⟩
     rw [HZ.out]
     have hroom : m1 + (p + z - p) ≤ 140737488355328 := by omega
     have HC5 : Hid (∀ w5 : World, Below w1.heap.size w1 w5 → w5.cell? ⟨b, off + (p + (z + 1)), none⟩ = some (.int .u8 (d : Int))) := by
      intro w5 hb5
      rw [hb5.cell (p := ⟨b, off + (p + (z + 1)), none⟩) hblk]
      exact HCD0.out
     clear HCD0
     by_cases hd1 : d = 1
     ·have HRR : Hid (R = (acc ++ (bs.drop p).take z, p + (z + 2), 0)) := by
       unfold Hid
       rw [HR.out]
       unfold ordR
       rw [HO2.out, HD.out, hd1]
       simp [rord]
       omega
      have e1 : ((d : Int) == 1) = true := by simp; omega
      have H1 : Hid (d = 1) := hd1
      clear hd1
      go_wp2_with (at_builtin; refine wpList_append_at rfl (.tmp 27) _ rfl w1.heap.size _ _ _ _ rfl own1 _ _ _ _ rfl rz hroom hs1 ?_; intro a5 m5 c5 w5 own5 hb5; have hb5' := hb1.trans hb5; have hcd := HC5.out w5 hb5')
      go_ret3
      rw [HRR.out]
      refine ⟨a5, m5, c5, ?_, own5, hb5'⟩
      have HE : ((p : Int) + ((z : Int) + 2)) = ((p + (z + 2) : Nat) : Int) := by omega
      exact congrArg (fun y : Int => Ending.returned (Value.tuple #[Value.slice a5 m5 c5, Value.int .i64 y, Value.int .i64 0])) HE
     ·have e1 : ((d : Int) == 1) = false := by simp; omega
      by_cases hd2 : d = 255
      ·have HO3 : Hid (rord (bs.drop k) [] 0 = rord (bs.drop (p + (z + 2))) ((acc ++ (bs.drop p).take z) ++ [0]) (p + (z + 2) - k)) := by
        unfold Hid
        rw [HO2.out, HD.out, hd2]
        conv => lhs; unfold rord
        simp
        rw [show p - k + z + 2 = p + (z + 2) - k by omega]
        rfl
       have e2 : ((d : Int) == 255) = true := by simp; omega
       have H1 : Hid (d = 255) := hd2
       have hzl : (bs.drop p).length = n - p := by rw [List.length_drop, ← HN.out]
       have HAL : Hid (acc.length = m1 ∧ ((bs.drop p).take z).length = z) := by unfold Hid; exact ⟨own1.1.symm, by rw [List.length_take, hzl]; omega⟩
       clear hd1 hd2 hzl
       go_wp2_with (first
        | (at_builtin; refine wpList_append_at rfl (.tmp 27) _ rfl w1.heap.size _ _ _ _ rfl own1 _ _ _ _ rfl rz hroom hs1 ?_; intro a5 m5 c5 w5 own5 hb5; have hb5' := hb1.trans hb5; have hcd := HC5.out w5 hb5')
        | (at_builtin; refine wpList_append_new rfl (.tmp 50) _ rfl w1.heap.size a5 m5 c5 _ rfl own5 [_] 1 rfl [0] rfl rfl (own_room2 own5 HAL.out hmp hpz3 h47) hb5'.size ?_; intro a6 m6 c6 w6 own6 hb6))
       go_roundw
       case rel =>
        refine ⟨p + (z + 2), a6, m6, c6, _, by omega, by omega, by go_num, rfl, own6, ?_, HO3.out, hb5'.trans hb6⟩
        have h1 := own6.1
        rw [List.length_append, List.length_append, HAL.out.1, HAL.out.2] at h1
        simp at h1
        omega
       case measure => simp [intOf]; omega
      ·have HRR : Hid (R = ([], 0, 11)) := by
        unfold Hid
        rw [HR.out]
        unfold ordR
        rw [HO2.out, HD.out]
        simp [rord, hd1, hd2]
       have e2 : ((d : Int) == 255) = false := by simp; omega
       clear hd1 hd2
       go_wp2_with (at_builtin; refine wpList_append_at rfl (.tmp 27) _ rfl w1.heap.size _ _ _ _ rfl own1 _ _ _ _ rfl rz hroom hs1 ?_; intro a5 m5 c5 w5 own5 hb5; have hb5' := hb1.trans hb5; have hcd := HC5.out w5 hb5')
       go_ret3
       rw [HRR.out]
       exact ⟨_, _, _, rfl, ⟨rfl, World.ownsRow_nil _ _ _ _⟩, hb5'⟩

end Go.Proofs.YtchebhafabhabaaGreatDoor

namespace Go.Proofs.YtchebhafabhabaaGreatDoor
open Go.RowKit
set_option linter.unusedVariables false

structure EntD where
 vr : Value
 fam : Int
 vq : Value
 ts : Int
 seq : Int
 kind : Int
 vv : Value
 row : List Nat
 qual : List Nat
 val : List Nat
def EntD.cells (e : EntD) : Array Value := #[e.vr, .int .i64 e.fam, e.vq, .int .i64 e.ts, .int .i64 e.seq, .int .i64 e.kind, e.vv]
def EntD.Ok (w : World) (e : EntD) : Prop := Rd w e.vr e.row ∧ Rd w e.vq e.qual ∧ Rd w e.vv e.val
theorem EntD.Ok.later {w w' : World} {e : EntD} (h : EntD.Ok w e) (hb : Below w.heap.size w w') : EntD.Ok w' e := ⟨h.1.later hb, h.2.1.later hb, h.2.2.later hb⟩

def checkS (e : EntD) : Nat :=
 if e.row.length = 0 ∨ 256 < e.row.length then 20
 else if e.fam < 0 ∨ 8 ≤ e.fam then 21
 else if 256 < e.qual.length ∨ (0 < e.qual.length ∧ e.kind = 5) then 22
 else if e.ts < 1 ∨ 1099511627776 < e.ts then 23
 else if e.seq < 0 ∨ 17592186044431 < e.seq then 24
 else if e.kind < 1 ∨ 5 < e.kind then 25
 else if 4096 < e.val.length ∨ (0 < e.val.length ∧ e.kind ≠ 1) then 26
 else 0

set_option maxRecDepth 100000 in
theorem isRow_any {a : Option Addr} {n cap : Nat} {w : World} (hn : n ≤ 281474976710656) :
  Calls Tryz.prog 108 #[.slice a n cap] w fun e w' => e = .returned (.bool (decide (0 < n ∧ n ≤ 256))) ∧ w' = w := by
 by_cases h : 0 < n
 ·have h1 : (0 : Int) < (n : Int) := by omega
  go_enter Tryz.func108, Tryz.ntmps108
  go_wp2
  go_ret
  refine ⟨?_, rfl⟩
  by_cases h2 : n ≤ 256
  ·rw [decide_eq_true (show 0 < n ∧ n ≤ 256 from ⟨h, h2⟩)]; simp; omega
  ·rw [decide_eq_false (show ¬ (0 < n ∧ n ≤ 256) from fun h3 => h2 h3.2)]; simp; omega
 ·have h1 : (n : Int) ≤ 0 := by omega
  have h0 : n = 0 := by omega
  subst h0
  go_enter Tryz.func108, Tryz.ntmps108
  go_wp2
  go_ret
  exact ⟨by first | rfl | simp, rfl⟩
set_option maxRecDepth 100000 in
theorem markOf_any (k a : Int) (w : World) : Calls Tryz.prog 89 #[.int .i64 k, .int .i64 a] w fun e w' => e = .returned (.int .u8 (((if k = a then 0 else 1 : Nat) : Nat) : Int)) ∧ w' = w := by
 by_cases h : k = a
 ·subst h
  go_enter Tryz.func89, Tryz.ntmps89
  go_wp2
  go_ret
  exact ⟨by simp, rfl⟩
 ·have h1 : (k == a) = false := by simp; exact h
  go_enter Tryz.func89, Tryz.ntmps89
  go_wp2
  go_ret
  exact ⟨by first | (rw [if_neg h]; rfl) | (simp; done) | simp [h], rfl⟩

set_option maxRecDepth 100000 in
set_option maxHeartbeats 4000000 in
theorem check_any {e : EntD} {w : World} (hok : EntD.Ok w e) :
  Calls Tryz.prog 87 #[.agg e.cells] w fun r w' => r = .returned (.int .i64 ((checkS e : Nat) : Int)) ∧ Below w.heap.size w w' := by
 obtain ⟨vr, fam, vq, ts, seq, kind, vv, row, qual, val⟩ := e
 obtain ⟨h1, h2, h3⟩ := hok
 simp only [EntD.cells] at *
 obtain ⟨ar, nr, cr, rfl⟩ := rd_slice h1
 obtain ⟨aq, nq, cq, rfl⟩ := rd_slice h2
 obtain ⟨av, nv, cv, rfl⟩ := rd_slice h3
 obtain ⟨er, _, _, lr⟩ := rd_lens h1
 obtain ⟨eq, _, _, lq⟩ := rd_lens h2
 obtain ⟨ev, _, _, lv⟩ := rd_lens h3
 have A1 := (Below.refl w.heap.size w).alloc (Nat.le_refl _) (.cells #[.slice ar nr cr, .int .i64 fam, .slice aq nq cq, .int .i64 ts, .int .i64 seq, .int .i64 kind, .slice av nv cv] 40)
 obtain ⟨S, hS⟩ : ∃ S, S = checkS ⟨.slice ar nr cr, fam, .slice aq nq cq, ts, seq, kind, .slice av nv cv, row, qual, val⟩ := ⟨_, rfl⟩
 rw [← hS]
 unfold checkS at hS
 simp only at hS
 rw [← er, ← eq, ← ev] at hS
 have HS : Hid (S = _) := hS
 clear hS er eq ev h1 h2 h3
 by_cases c1 : 0 < nr ∧ nr ≤ 256
 ·have d1 : decide (0 < nr ∧ nr ≤ 256) = true := by simp; omega
  by_cases c2a : fam < 0
  ·have HE : Hid (S = 21) := by unfold Hid; rw [HS.out]; repeat (first | rw [if_pos (by omega)] | rw [if_neg (by omega)])
   clear HS
   go_enter Tryz.func87, Tryz.ntmps87
   go_wp2_with fail
   refine (isRow_any lr).mono ?_
   rintro e1 w1 ⟨rfl, rfl⟩
   rw [d1]
   go_wp2
   go_ret
   exact ⟨by rw [HE.out]; rfl, A1⟩
  ·have c2q : 0 ≤ fam := by omega
   by_cases c2b : 8 ≤ fam
   ·have HE : Hid (S = 21) := by unfold Hid; rw [HS.out]; repeat (first | rw [if_pos (by omega)] | rw [if_neg (by omega)])
    clear HS
    go_enter Tryz.func87, Tryz.ntmps87
    go_wp2_with fail
    refine (isRow_any lr).mono ?_
    rintro e1 w1 ⟨rfl, rfl⟩
    rw [d1]
    go_wp2
    go_ret
    exact ⟨by rw [HE.out]; rfl, A1⟩
   ·have c2p : fam < 8 := by omega
    by_cases c3a : 256 < nq
    ·have q1 : (256 : Int) < (nq : Int) := by omega
     have HE : Hid (S = 22) := by unfold Hid; rw [HS.out]; repeat (first | rw [if_pos (by omega)] | rw [if_neg (by omega)])
     clear HS
     go_enter Tryz.func87, Tryz.ntmps87
     go_wp2_with fail
     refine (isRow_any lr).mono ?_
     rintro e1 w1 ⟨rfl, rfl⟩
     rw [d1]
     go_wp2
     go_ret
     exact ⟨by rw [HE.out]; rfl, A1⟩
    ·have q1 : (nq : Int) ≤ 256 := by omega
     by_cases c3b : 0 < nq
     ·have q0 : (0 : Int) < (nq : Int) := by omega
      by_cases c3c : kind = 5
      ·subst c3c
       have HE : Hid (S = 22) := by unfold Hid; rw [HS.out]; repeat (first | rw [if_pos (by omega)] | rw [if_neg (by omega)])
       clear HS
       go_enter Tryz.func87, Tryz.ntmps87
       go_wp2_with fail
       refine (isRow_any lr).mono ?_
       rintro e1 w1 ⟨rfl, rfl⟩
       rw [d1]
       go_wp2
       go_ret
       exact ⟨by rw [HE.out]; rfl, A1⟩
      ·have k5 : (kind == 5) = false := by simp; omega
       by_cases c4a : ts < 1
       ·have HE : Hid (S = 23) := by unfold Hid; rw [HS.out]; repeat (first | rw [if_pos (by omega)] | rw [if_neg (by omega)])
        clear HS
        go_enter Tryz.func87, Tryz.ntmps87
        go_wp2_with fail
        refine (isRow_any lr).mono ?_
        rintro e1 w1 ⟨rfl, rfl⟩
        rw [d1]
        go_wp2
        go_ret
        exact ⟨by rw [HE.out]; rfl, A1⟩
       ·have c4q : 1 ≤ ts := by omega
        by_cases c4b : 1099511627776 < ts
        ·have HE : Hid (S = 23) := by unfold Hid; rw [HS.out]; repeat (first | rw [if_pos (by omega)] | rw [if_neg (by omega)])
         clear HS
         go_enter Tryz.func87, Tryz.ntmps87
         go_wp2_with fail
         refine (isRow_any lr).mono ?_
         rintro e1 w1 ⟨rfl, rfl⟩
         rw [d1]
         go_wp2
         go_ret
         exact ⟨by rw [HE.out]; rfl, A1⟩
        ·have c4p : ts ≤ 1099511627776 := by omega
         by_cases c5a : seq < 0
         ·have HE : Hid (S = 24) := by unfold Hid; rw [HS.out]; repeat (first | rw [if_pos (by omega)] | rw [if_neg (by omega)])
          clear HS
          go_enter Tryz.func87, Tryz.ntmps87
          go_wp2_with fail
          refine (isRow_any lr).mono ?_
          rintro e1 w1 ⟨rfl, rfl⟩
          rw [d1]
          go_wp2
          go_ret
          exact ⟨by rw [HE.out]; rfl, A1⟩
         ·have c5q : 0 ≤ seq := by omega
          by_cases c5b : 17592186044431 < seq
          ·have HE : Hid (S = 24) := by unfold Hid; rw [HS.out]; repeat (first | rw [if_pos (by omega)] | rw [if_neg (by omega)])
           clear HS
           go_enter Tryz.func87, Tryz.ntmps87
           go_wp2_with fail
           refine (isRow_any lr).mono ?_
           rintro e1 w1 ⟨rfl, rfl⟩
           rw [d1]
           go_wp2
           go_ret
           exact ⟨by rw [HE.out]; rfl, A1⟩
          ·have c5p : seq ≤ 17592186044431 := by omega
           by_cases c6a : kind < 1
           ·have HE : Hid (S = 25) := by unfold Hid; rw [HS.out]; repeat (first | rw [if_pos (by omega)] | rw [if_neg (by omega)])
            clear HS
            go_enter Tryz.func87, Tryz.ntmps87
            go_wp2_with fail
            refine (isRow_any lr).mono ?_
            rintro e1 w1 ⟨rfl, rfl⟩
            rw [d1]
            go_wp2
            go_ret
            exact ⟨by rw [HE.out]; rfl, A1⟩
           ·have c6q : 1 ≤ kind := by omega
            by_cases c6b : 5 < kind
            ·have HE : Hid (S = 25) := by unfold Hid; rw [HS.out]; repeat (first | rw [if_pos (by omega)] | rw [if_neg (by omega)])
             clear HS
             go_enter Tryz.func87, Tryz.ntmps87
             go_wp2_with fail
             refine (isRow_any lr).mono ?_
             rintro e1 w1 ⟨rfl, rfl⟩
             rw [d1]
             go_wp2
             go_ret
             exact ⟨by rw [HE.out]; rfl, A1⟩
            ·have c6p : kind ≤ 5 := by omega
             by_cases c7a : 4096 < nv
             ·have v1 : (4096 : Int) < (nv : Int) := by omega
              have HE : Hid (S = 26) := by unfold Hid; rw [HS.out]; repeat (first | rw [if_pos (by omega)] | rw [if_neg (by omega)])
              clear HS
              go_enter Tryz.func87, Tryz.ntmps87
              go_wp2_with fail
              refine (isRow_any lr).mono ?_
              rintro e1 w1 ⟨rfl, rfl⟩
              rw [d1]
              go_wp2
              go_ret
              exact ⟨by rw [HE.out]; rfl, A1⟩
             ·have v1 : (nv : Int) ≤ 4096 := by omega
              by_cases c7b : 0 < nv
              ·have v0 : (0 : Int) < (nv : Int) := by omega
               by_cases c7c : kind = 1
               ·subst c7c
                have HE : Hid (S = 0) := by unfold Hid; rw [HS.out]; repeat (first | rw [if_pos (by omega)] | rw [if_neg (by omega)])
                clear HS
                go_enter Tryz.func87, Tryz.ntmps87
                go_wp2_with fail
                refine (isRow_any lr).mono ?_
                rintro e1 w1 ⟨rfl, rfl⟩
                rw [d1]
                go_wp2
                go_ret
                exact ⟨by rw [HE.out]; rfl, A1⟩
               ·have k1 : (kind == 1) = false := by simp; omega
                have k1n : (kind != 1) = true := by simp; omega
                have HE : Hid (S = 26) := by unfold Hid; rw [HS.out]; repeat (first | rw [if_pos (by omega)] | rw [if_neg (by omega)])
                clear HS
                go_enter Tryz.func87, Tryz.ntmps87
                go_wp2_with fail
                refine (isRow_any lr).mono ?_
                rintro e1 w1 ⟨rfl, rfl⟩
                rw [d1]
                go_wp2
                go_ret
                exact ⟨by rw [HE.out]; rfl, A1⟩
              ·have v0 : (nv : Int) ≤ 0 := by omega
               have HE : Hid (S = 0) := by unfold Hid; rw [HS.out]; repeat (first | rw [if_pos (by omega)] | rw [if_neg (by omega)])
               clear HS
               go_enter Tryz.func87, Tryz.ntmps87
               go_wp2_with fail
               refine (isRow_any lr).mono ?_
               rintro e1 w1 ⟨rfl, rfl⟩
               rw [d1]
               go_wp2
               go_ret
               exact ⟨by rw [HE.out]; rfl, A1⟩
     ·have q0 : (nq : Int) ≤ 0 := by omega
      by_cases c4a : ts < 1
      ·have HE : Hid (S = 23) := by unfold Hid; rw [HS.out]; repeat (first | rw [if_pos (by omega)] | rw [if_neg (by omega)])
       clear HS
       go_enter Tryz.func87, Tryz.ntmps87
       go_wp2_with fail
       refine (isRow_any lr).mono ?_
       rintro e1 w1 ⟨rfl, rfl⟩
       rw [d1]
       go_wp2
       go_ret
       exact ⟨by rw [HE.out]; rfl, A1⟩
      ·have c4q : 1 ≤ ts := by omega
       by_cases c4b : 1099511627776 < ts
       ·have HE : Hid (S = 23) := by unfold Hid; rw [HS.out]; repeat (first | rw [if_pos (by omega)] | rw [if_neg (by omega)])
        clear HS
        go_enter Tryz.func87, Tryz.ntmps87
        go_wp2_with fail
        refine (isRow_any lr).mono ?_
        rintro e1 w1 ⟨rfl, rfl⟩
        rw [d1]
        go_wp2
        go_ret
        exact ⟨by rw [HE.out]; rfl, A1⟩
       ·have c4p : ts ≤ 1099511627776 := by omega
        by_cases c5a : seq < 0
        ·have HE : Hid (S = 24) := by unfold Hid; rw [HS.out]; repeat (first | rw [if_pos (by omega)] | rw [if_neg (by omega)])
         clear HS
         go_enter Tryz.func87, Tryz.ntmps87
         go_wp2_with fail
         refine (isRow_any lr).mono ?_
         rintro e1 w1 ⟨rfl, rfl⟩
         rw [d1]
         go_wp2
         go_ret
         exact ⟨by rw [HE.out]; rfl, A1⟩
        ·have c5q : 0 ≤ seq := by omega
         by_cases c5b : 17592186044431 < seq
         ·have HE : Hid (S = 24) := by unfold Hid; rw [HS.out]; repeat (first | rw [if_pos (by omega)] | rw [if_neg (by omega)])
          clear HS
          go_enter Tryz.func87, Tryz.ntmps87
          go_wp2_with fail
          refine (isRow_any lr).mono ?_
          rintro e1 w1 ⟨rfl, rfl⟩
          rw [d1]
          go_wp2
          go_ret
          exact ⟨by rw [HE.out]; rfl, A1⟩
         ·have c5p : seq ≤ 17592186044431 := by omega
          by_cases c6a : kind < 1
          ·have HE : Hid (S = 25) := by unfold Hid; rw [HS.out]; repeat (first | rw [if_pos (by omega)] | rw [if_neg (by omega)])
           clear HS
           go_enter Tryz.func87, Tryz.ntmps87
           go_wp2_with fail
           refine (isRow_any lr).mono ?_
           rintro e1 w1 ⟨rfl, rfl⟩
           rw [d1]
           go_wp2
           go_ret
           exact ⟨by rw [HE.out]; rfl, A1⟩
          ·have c6q : 1 ≤ kind := by omega
           by_cases c6b : 5 < kind
           ·have HE : Hid (S = 25) := by unfold Hid; rw [HS.out]; repeat (first | rw [if_pos (by omega)] | rw [if_neg (by omega)])
            clear HS
            go_enter Tryz.func87, Tryz.ntmps87
            go_wp2_with fail
            refine (isRow_any lr).mono ?_
            rintro e1 w1 ⟨rfl, rfl⟩
            rw [d1]
            go_wp2
            go_ret
            exact ⟨by rw [HE.out]; rfl, A1⟩
           ·have c6p : kind ≤ 5 := by omega
            by_cases c7a : 4096 < nv
            ·have v1 : (4096 : Int) < (nv : Int) := by omega
             have HE : Hid (S = 26) := by unfold Hid; rw [HS.out]; repeat (first | rw [if_pos (by omega)] | rw [if_neg (by omega)])
             clear HS
             go_enter Tryz.func87, Tryz.ntmps87
             go_wp2_with fail
             refine (isRow_any lr).mono ?_
             rintro e1 w1 ⟨rfl, rfl⟩
             rw [d1]
             go_wp2
             go_ret
             exact ⟨by rw [HE.out]; rfl, A1⟩
            ·have v1 : (nv : Int) ≤ 4096 := by omega
             by_cases c7b : 0 < nv
             ·have v0 : (0 : Int) < (nv : Int) := by omega
              by_cases c7c : kind = 1
              ·subst c7c
               have HE : Hid (S = 0) := by unfold Hid; rw [HS.out]; repeat (first | rw [if_pos (by omega)] | rw [if_neg (by omega)])
               clear HS
               go_enter Tryz.func87, Tryz.ntmps87
               go_wp2_with fail
               refine (isRow_any lr).mono ?_
               rintro e1 w1 ⟨rfl, rfl⟩
               rw [d1]
               go_wp2
               go_ret
               exact ⟨by rw [HE.out]; rfl, A1⟩
              ·have k1 : (kind == 1) = false := by simp; omega
               have k1n : (kind != 1) = true := by simp; omega
               have HE : Hid (S = 26) := by unfold Hid; rw [HS.out]; repeat (first | rw [if_pos (by omega)] | rw [if_neg (by omega)])
               clear HS
               go_enter Tryz.func87, Tryz.ntmps87
               go_wp2_with fail
               refine (isRow_any lr).mono ?_
               rintro e1 w1 ⟨rfl, rfl⟩
               rw [d1]
               go_wp2
               go_ret
               exact ⟨by rw [HE.out]; rfl, A1⟩
             ·have v0 : (nv : Int) ≤ 0 := by omega
              have HE : Hid (S = 0) := by unfold Hid; rw [HS.out]; repeat (first | rw [if_pos (by omega)] | rw [if_neg (by omega)])
              clear HS
              go_enter Tryz.func87, Tryz.ntmps87
              go_wp2_with fail
              refine (isRow_any lr).mono ?_
              rintro e1 w1 ⟨rfl, rfl⟩
              rw [d1]
              go_wp2
              go_ret
              exact ⟨by rw [HE.out]; rfl, A1⟩
 ·have d1 : decide (0 < nr ∧ nr ≤ 256) = false := by simp; omega
  have HE : Hid (S = 20) := by unfold Hid; rw [HS.out]; repeat (first | rw [if_pos (by omega)] | rw [if_neg (by omega)])
  clear HS
  go_enter Tryz.func87, Tryz.ntmps87
  go_wp2_with fail
  refine (isRow_any lr).mono ?_
  rintro e1 w1 ⟨rfl, rfl⟩
  rw [d1]
  go_wp2
  go_ret
  exact ⟨by rw [HE.out]; rfl, A1⟩

end Go.Proofs.YtchebhafabhabaaGreatDoor
