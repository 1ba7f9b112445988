import Derived.Test.YtledfniedoapiaaDoorJ02
import Derived.Shelf.Bytes.SlCountOne
import Derived.Test.YtledfniedoapiaaDoorJ01
namespace Go.Proofs.YtledfniedoapiaaDoor
open Go.RowKit
set_option linter.unusedVariables false

/-- Eight bytes, the highest first. -/
def be8 (n : Nat) : List Nat := [n / 2 ^ 56 % 256, n / 2 ^ 48 % 256, n / 2 ^ 40 % 256, n / 2 ^ 32 % 256, n / 2 ^ 24 % 256, n / 2 ^ 16 % 256, n / 2 ^ 8 % 256, n % 256]
theorem be8_bys (n : Nat) : Bys (be8 n) := by intro x hx; simp [be8] at hx; omega
theorem be8_get (n t : Nat) (h : t < 8) : (be8 n).getD t 0 = n / 2 ^ (8 * (7 - t)) % 256 := by
  match t, h with
  | 0, _ => rfl
  | 1, _ => rfl
  | 2, _ => rfl
  | 3, _ => rfl
  | 4, _ => rfl
  | 5, _ => rfl
  | 6, _ => rfl
  | 7, _ => simp [be8]
def fill8 (n t : Nat) : List Nat := (be8 n).take t ++ List.replicate (8 - t) 0
theorem fill8_len (n t : Nat) (h : t ≤ 8) : (fill8 n t).length = 8 := by simp [fill8, be8]; omega
theorem fill8_next (n t : Nat) (h : t < 8) : (fill8 n t).set t ((be8 n).getD t 0) = fill8 n (t + 1) := by
  match t, h with
  | 0, _ => rfl
  | 1, _ => rfl
  | 2, _ => rfl
  | 3, _ => rfl
  | 4, _ => rfl
  | 5, _ => rfl
  | 6, _ => rfl
  | 7, _ => rfl

set_option maxRecDepth 100000 in
set_option maxHeartbeats 400000 in
theorem rising_neg (z : Int) (hz : z < 0) (w : World) : Calls Tryd.prog 44 #[.int .i64 z] w fun e w' => e = .returned (.tuple #[.slice none 0 0, .int .i64 1]) ∧ w' = w := by
  go_enter Tryd.func44, Tryd.ntmps44
  go_wp2
  go_ret2
  exact ⟨rfl, rfl⟩

set_option maxRecDepth 100000 in
set_option maxHeartbeats 1000000 in
theorem rising_any (n : Nat) (hn : n < 9223372036854775808) (w : World) :
    Calls Tryd.prog 44 #[.int .i64 (n : Int)] w fun e w' => ∃ a m c, e = .returned (.tuple #[.slice a m c, .int .i64 0]) ∧ Own w' w.heap.size (.slice a m c) m (be8 n) ∧ Below w.heap.size w w' := by
  have h0 : (0 : Int) ≤ (n : Int) := by omega
  have hmk : ∀ w, (Instr.makeSlice 23 (.int .i64 8) (.int .i64 8)).run Tryd.prog w = .ok (.slice (some ⟨w.heap.size, 0, none⟩) 8 8) (w.alloc (.cells #[.int .u8 0, .int .u8 0, .int .u8 0, .int .u8 0, .int .u8 0, .int .u8 0, .int .u8 0, .int .u8 0] 5)) := fun _ => by kernel_rfl
  go_enter Tryd.func44, Tryd.ntmps44
  go_wp2
  go_loopw [11] (fun i wr => ∃ t, t ≤ 8 ∧ i = .int .i64 ((t : Nat) : Int) ∧ Own wr w.heap.size (.slice (some ⟨w.heap.size, 0, none⟩) 8 8) 8 (fill8 n t) ∧ Below w.heap.size w wr) (fun i _ => 8 - (intOf i).toNat)
  case atStart =>
    refine ⟨0, by omega, rfl, ⟨rfl, ?_⟩, (Below.refl _ _).alloc (Nat.le_refl _) _⟩
    exact ⟨rfl, .inr ⟨w.heap.size, 8, _, rfl, Nat.le_refl _, heap_alloc_new w _, by omega, by unfold maxLen; omega, rfl, rfl⟩⟩
  case round =>
    obtain ⟨t, htl, rfl, ownk, hbk⟩ := hrel
    by_cases hlt : t < 8
    · have hlt2 : (t : Int) < 8 := by omega
      have hfz := ownk.2.frozenAt t
      have hcell : wr.cell? ⟨w.heap.size, t, none⟩ = some (.int .u8 (((fill8 n t).getD t 0 : Nat) : Int)) := by
        rw [ownk.2.cellAt t (by omega)]
        simp [bv, List.getElem?_eq_getElem (show t < (fill8 n t).length by rw [fill8_len n t (by omega)]; exact hlt)]
      obtain ⟨y, hy⟩ : ∃ y, y = (fill8 n t).getD t 0 := ⟨_, rfl⟩
      rw [← hy] at hcell
      clear hy
      have HOWN : Hid (Own wr w.heap.size (.slice (some ⟨w.heap.size, 0, none⟩) 8 8) 8 (fill8 n t)) := ownk
      have HBK : Hid (Below w.heap.size w wr) := hbk
      clear ownk hbk
      have hvv : ((n : Int) / 2 ^ (8 * (7 - t)) % 256) = (((be8 n).getD t 0 : Nat) : Int) := by
        rw [be8_get n t hlt]; simp
      have HVV : Hid (((n : Int) / 2 ^ (8 * (7 - t)) % 256) = (((be8 n).getD t 0 : Nat) : Int)) := hvv
      clear hvv
      go_wp2
      go_roundw
      case rel =>
        have st := HOWN.out.2.stored t (.int .u8 ((n : Int) / 2 ^ (8 * (7 - t)) % 256))
        refine ⟨t + 1, by omega, by go_num, ⟨by rw [fill8_len n (t + 1) (by omega)], ?_⟩, HBK.out.setCell (p := ⟨w.heap.size, t, none⟩) (Nat.le_refl _) _⟩
        have := st.1
        rw [HVV.out] at this ⊢
        have e : bv (fill8 n (t + 1)) = (bv (fill8 n t)).set t (.int .u8 (((be8 n).getD t 0 : Nat) : Int)) := by
          rw [← fill8_next n t hlt]
          simp [bv, List.map_set]
        rw [e]
        exact this
      case measure => simp [intOf]; omega
    · have hge : (8 : Int) ≤ (t : Int) := by omega
      obtain rfl : t = 8 := by omega
      have e : fill8 n 8 = be8 n := rfl
      rw [e] at ownk
      go_wp2
      go_ret2
      exact ⟨_, _, _, rfl, ownk, hbk⟩

theorem rising_at (z : Int) (n : Nat) (hz : z = (n : Int)) (hn : n < 9223372036854775808) (w : World) :
    Calls Tryd.prog 44 #[.int .i64 z] w fun e w' => ∃ a m c, e = .returned (.tuple #[.slice a m c, .int .i64 0]) ∧ Own w' w.heap.size (.slice a m c) m (be8 n) ∧ Below w.heap.size w w' := by
  subst hz; exact rising_any n hn w

set_option maxRecDepth 100000 in
set_option maxHeartbeats 400000 in
theorem falling_neg (z : Int) (hz : z < 0) (w : World) : Calls Tryd.prog 45 #[.int .i64 z] w fun e w' => e = .returned (.tuple #[.slice none 0 0, .int .i64 1]) ∧ w' = w := by
  go_enter Tryd.func45, Tryd.ntmps45
  go_wp2
  go_ret2
  exact ⟨rfl, rfl⟩
set_option maxRecDepth 100000 in
set_option maxHeartbeats 400000 in
theorem falling_any (n : Nat) (hn : n < 9223372036854775808) (w : World) :
    Calls Tryd.prog 45 #[.int .i64 (n : Int)] w fun e w' => ∃ a m c, e = .returned (.tuple #[.slice a m c, .int .i64 0]) ∧ Own w' w.heap.size (.slice a m c) m (be8 (9223372036854775807 - n)) ∧ Below w.heap.size w w' := by
  have h0 : (0 : Int) ≤ (n : Int) := by omega
  have h1 : (n : Int) ≤ 9223372036854775807 := by omega
  obtain ⟨q, hq⟩ : ∃ q, q = 9223372036854775807 - n := ⟨_, rfl⟩
  have HQ : Hid (((9223372036854775807 : Int) - (n : Int)) = (q : Int)) := by unfold Hid; omega
  have HQ2 : Hid (q < 9223372036854775808) := by unfold Hid; omega
  rw [← hq]
  clear hq
  go_enter Tryd.func45, Tryd.ntmps45
  go_wp2_with fail
  refine (rising_at _ q HQ.out HQ2.out _).mono ?_
  rintro e w1 ⟨a1, m1, c1, rfl, own1, hb1⟩
  go_wp2
  go_ret2
  exact ⟨a1, m1, c1, rfl, own1, hb1⟩

/-- What eight bytes say. -/
def num8 (l : List Nat) : Nat := l.foldl (fun v c => v * 256 + c) 0
theorem num8_lt (l : List Nat) (h : Bys l) : num8 l < 256 ^ l.length := by
  have key : ∀ (l : List Nat) (v k : Nat), Bys l → v < 256 ^ k → l.foldl (fun v c => v * 256 + c) v < 256 ^ (k + l.length) := by
    intro l
    induction l with
    | nil => intro v k _ hv; simpa using hv
    | cons c l ih =>
      intro v k hb hv
      have := ih (v * 256 + c) (k + 1) (fun x hx => hb x (by simp [hx])) (by have := hb c (by simp); rw [Nat.pow_succ]; omega)
      rw [show k + (c :: l).length = k + 1 + l.length by simp; omega]
      exact this
  have := key l 0 0 h (by simp)
  rw [Nat.zero_add] at this
  exact this
theorem num8_snoc (l : List Nat) (t : Nat) (h : t < l.length) : num8 (l.take (t + 1)) = num8 (l.take t) * 256 + l.getD t 0 := by
  rw [take_succ_getD l t h]
  simp [num8, List.foldl_append]
/-- What ReadRising answers. -/
def riseR (bs : List Nat) (k : Nat) : Nat × Nat × Nat :=
  if bs.length < k + 8 then (0, 0, 10)
  else if 9223372036854775807 < num8 ((bs.drop k).take 8) then (0, 0, 13)
  else (num8 ((bs.drop k).take 8), k + 8, 0)

set_option maxRecDepth 100000 in
set_option maxHeartbeats 400000 in
theorem readRising_out {v : Value} {bs : List Nat} {w : World} (hr : Rd w v bs) (at_ : Int) (h : at_ < 0 ∨ (bs.length : Int) < at_) :
    Calls Tryd.prog 57 #[v, .int .i64 at_] w fun e w' => e = .returned (.tuple #[.int .i64 0, .int .i64 0, .int .i64 1]) ∧ w' = w := by
  obtain ⟨a, n, cap, rfl⟩ := rd_slice hr
  obtain ⟨hn, hle, hm, hl48⟩ := rd_lens hr
  rw [← hn] at h
  clear hn hr
  have hd : decide (at_ < 0 ∨ (n : Int) < at_) = true := by simpa using h
  clear h
  go_enter Tryd.func57, Tryd.ntmps57
  go_wp2_with fail
  refine (outside_any at_ hl48).mono ?_
  rintro e w1 ⟨rfl, rfl⟩
  rw [hd]
  go_wp2
  go_ret3
  exact ⟨rfl, rfl⟩

set_option maxRecDepth 100000 in
set_option maxHeartbeats 1000000 in
theorem readRising_in {v : Value} {bs : List Nat} {w : World} (hr : Rd w v bs) (k : Nat) (hk : k ≤ bs.length) :
    Calls Tryd.prog 57 #[v, .int .i64 (k : Int)] w fun e w' => e = .returned (.tuple #[.int .i64 (((riseR bs k).1 : Nat) : Int), .int .i64 (((riseR bs k).2.1 : Nat) : Int), .int .i64 (((riseR bs k).2.2 : Nat) : Int)]) ∧ w' = w := by
  obtain ⟨a, n, cap, rfl⟩ := rd_slice hr
  obtain ⟨hn, hle, hm, hl48⟩ := rd_lens hr
  rw [← hn] at hk
  have HN : Hid (n = bs.length) := hn
  clear hn
  unfold maxLen at hm
  have hk2 : (k : Int) ≤ (n : Int) := by omega
  have hk0 : (0 : Int) ≤ (k : Int) := by omega
  have hd : decide ((k : Int) < 0 ∨ (n : Int) < (k : Int)) = false := by simp; omega
  by_cases h8 : n < k + 8
  · have hf : riseR bs k = (0, 0, 10) := by unfold riseR; rw [if_pos (by rw [← HN.out]; exact h8)]
    rw [hf]
    have e1 : (n : Int) - (k : Int) < 8 := by omega
    clear hf
    go_enter Tryd.func57, Tryd.ntmps57
    go_wp2_with fail
    refine (outside_any _ hl48).mono ?_
    rintro e w1 ⟨rfl, rfl⟩
    rw [hd]
    go_wp2
    go_ret3
    exact ⟨rfl, rfl⟩
  · have e1 : (8 : Int) ≤ (n : Int) - (k : Int) := by omega
    rcases rd_some hr with ⟨_, h0, _⟩ | ⟨b, off, rfl⟩
    · omega
    have hne : ¬ cap = k := by omega
    have rs := hr.sub k (k + 8) (by omega) (by omega) (off' := off + k) (n' := 8) (cap' := cap - k) rfl (by omega) rfl
    have eb : (bs.take (k + 8)).drop k = (bs.drop k).take 8 := by rw [List.drop_take]; congr 1; omega
    rw [eb] at rs
    obtain ⟨L, hL⟩ : ∃ L, L = (bs.drop k).take 8 := ⟨_, rfl⟩
    rw [← hL] at rs
    have hf : riseR bs k = if 9223372036854775807 < num8 L then (0, 0, 13) else (num8 L, k + 8, 0) := by
      unfold riseR; rw [if_neg (by rw [← HN.out]; exact h8), ← hL]
    have HL8 : Hid (L.length = 8) := by unfold Hid; rw [hL, List.length_take, List.length_drop, ← HN.out]; omega
    have HLB : Hid (Bys L) := rs.1
    obtain ⟨R, hR⟩ : ∃ R, R = riseR bs k := ⟨_, rfl⟩
    rw [← hR] at hf ⊢
    have HF : Hid (R = if 9223372036854775807 < num8 L then (0, 0, 13) else (num8 L, k + 8, 0)) := hf
    clear hR
    have hcells : ∀ t, t < 8 → w.cell? ⟨b, off + k + t, none⟩ = some (.int .u8 ((L.getD t 0 : Nat) : Int)) := fun t htt => (rd_cell rs t htt).1
    have HC : Hid (∀ t, t < 8 → w.cell? ⟨b, off + k + t, none⟩ = some (.int .u8 ((L.getD t 0 : Nat) : Int))) := hcells
    clear hf eb hL hcells rs hr
    go_enter Tryd.func57, Tryd.ntmps57
    go_wp2_with fail
    refine (outside_any _ hl48).mono ?_
    rintro e w1 ⟨rfl, rfl⟩
    rw [hd]
    go_wp2
    go_loop [7, 24] (fun x i => ∃ t q : Nat, t ≤ 8 ∧ i = .int .i64 (t : Int) ∧ x = .int .u64 (q : Int) ∧ q = num8 (L.take t) ∧ q < 256 ^ t) (fun _ i => 8 - (intOf i).toNat)
    case atStart => exact ⟨0, 0, by omega, rfl, rfl, rfl, by simp⟩
    case round =>
      obtain ⟨t, q, htl, rfl, rfl, hq, hql⟩ := hrel
      have HQ : Hid (q = num8 (L.take t)) := hq
      clear hq
      by_cases hlt : t < 8
      · have hlt2 : (t : Int) < 8 := by omega
        have hq7 : q < 72057594037927936 := Nat.lt_of_lt_of_le hql (by
          have : 256 ^ t ≤ 256 ^ 7 := Nat.pow_le_pow_right (by omega) (by omega)
          exact Nat.le_trans this (by decide))
        have hc := HC.out t hlt
        have hcl := HLB.out.get t
        obtain ⟨c, hcd⟩ : ∃ c, c = L.getD t 0 := ⟨_, rfl⟩
        rw [← hcd] at hc hcl
        have HCD : Hid (c = L.getD t 0) := hcd
        have HQL : Hid (q < 256 ^ t) := hql
        clear hcd hql
        have em : (c : Int) % 18446744073709551616 = (c : Int) := by omega
        have hor : bits .or .u64 ((q : Int) * 256) (c : Int) = ((q * 256 + c : Nat) : Int) := by
          have := u64_or_nat (q * 256) c (by omega) (by omega)
          rw [nat_join 8 (q * 256) c (by omega) (by omega)] at this
          rw [← this]
          simp
        obtain ⟨r, hr⟩ : ∃ r, r = q * 256 + c := ⟨_, rfl⟩
        rw [← hr] at hor
        have HR : Hid (r = q * 256 + c) := hr
        clear hr
        go_wp2
        go_round
        case rel =>
          refine ⟨t + 1, r, by omega, by go_num, by first | rfl | rw [hor], ?_, ?_⟩
          · rw [num8_snoc L t (by rw [HL8.out]; exact hlt), ← HQ.out, ← HCD.out]; exact HR.out
          · rw [HR.out, Nat.pow_succ]; have := HQL.out; omega
        case measure => simp [intOf]; omega
      · have hge : (8 : Int) ≤ (t : Int) := by omega
        obtain rfl : t = 8 := by omega
        have e8 : L.take 8 = L := List.take_of_length_le (by rw [HL8.out]; omega)
        have hqL := HQ.out
        rw [e8] at hqL
        have hq64 : q < 18446744073709551616 := hql
        have hRq := HF.out
        rw [← hqL] at hRq
        clear hql hqL e8
        by_cases hbig : 9223372036854775807 < q
        · rw [if_pos hbig] at hRq
          have HRQ : Hid (R = (0, 0, 13)) := hRq
          clear hRq
          have hb2 : (9223372036854775807 : Int) < (q : Int) := by omega
          clear hbig
          go_wp2
          go_ret3
          rw [HRQ.out]
          exact ⟨rfl, rfl⟩
        · rw [if_neg hbig] at hRq
          have HRQ : Hid (R = (q, k + 8, 0)) := hRq
          clear hRq
          have hb2 : (q : Int) ≤ 9223372036854775807 := by omega
          have hw : IntKind.i64.wrap (q : Int) = (q : Int) := by simp only [IntKind.wrap, IntKind.bits, IntKind.signed]; simp; omega
          have HE : Hid (((k : Int) + 8) = ((k + 8 : Nat) : Int)) := by unfold Hid; omega
          clear hbig
          go_wp2
          go_ret3
          rw [HRQ.out]
          refine ⟨?_, rfl⟩
          exact congrArg (fun z : Int => Ending.returned (Value.tuple #[Value.int .i64 (q : Int), Value.int .i64 z, Value.int .i64 0])) HE.out

theorem readRising_at {v : Value} {bs : List Nat} {w : World} (hr : Rd w v bs) (z : Int) (k : Nat) (hz : z = (k : Int)) (hk : k ≤ bs.length) {V P E : Nat} (h : riseR bs k = (V, P, E)) :
    Calls Tryd.prog 57 #[v, .int .i64 z] w fun e w' => e = .returned (.tuple #[.int .i64 (V : Int), .int .i64 (P : Int), .int .i64 (E : Int)]) ∧ w' = w := by
  subst hz
  have := readRising_in hr k hk
  rw [h] at this
  exact this

/-- What ReadFalling answers. -/
def fallR (bs : List Nat) (k : Nat) : Nat × Nat × Nat :=
  if (riseR bs k).2.2 ≠ 0 then (0, 0, (riseR bs k).2.2) else (9223372036854775807 - (riseR bs k).1, (riseR bs k).2.1, 0)
theorem riseR_lt (bs : List Nat) (k : Nat) : (riseR bs k).1 ≤ 9223372036854775807 ∧ (riseR bs k).2.2 ≤ 13 ∧ ((riseR bs k).2.2 ≠ 0 → (riseR bs k).2.1 = 0) ∧ (riseR bs k).2.1 ≤ k + 8 := by
  unfold riseR
  split
  · simp
  · split
    · simp
    · rename_i h1 h2
      refine ⟨by show num8 _ ≤ _; omega, by simp, by simp, by simp⟩

set_option maxRecDepth 100000 in
set_option maxHeartbeats 400000 in
theorem readFalling_out {v : Value} {bs : List Nat} {w : World} (hr : Rd w v bs) (at_ : Int) (h : at_ < 0 ∨ (bs.length : Int) < at_) :
    Calls Tryd.prog 59 #[v, .int .i64 at_] w fun e w' => e = .returned (.tuple #[.int .i64 0, .int .i64 0, .int .i64 1]) ∧ w' = w := by
  go_enter Tryd.func59, Tryd.ntmps59
  go_wp2_with fail
  refine (readRising_out hr at_ h).mono ?_
  rintro e w1 ⟨rfl, rfl⟩
  go_wp2
  go_ret3
  exact ⟨rfl, rfl⟩
set_option maxRecDepth 100000 in
set_option maxHeartbeats 400000 in
theorem readFalling_in {v : Value} {bs : List Nat} {w : World} (hr : Rd w v bs) (k : Nat) (hk : k ≤ bs.length) :
    Calls Tryd.prog 59 #[v, .int .i64 (k : Int)] w fun e w' => e = .returned (.tuple #[.int .i64 (((fallR bs k).1 : Nat) : Int), .int .i64 (((fallR bs k).2.1 : Nat) : Int), .int .i64 (((fallR bs k).2.2 : Nat) : Int)]) ∧ w' = w := by
  have hl := riseR_lt bs k
  obtain ⟨R, hR⟩ : ∃ R, R = riseR bs k := ⟨_, rfl⟩
  obtain ⟨V, P, E⟩ := R
  rw [← hR] at hl
  simp only at hl
  have HR : Hid (riseR bs k = (V, P, E)) := hR.symm
  have HK : Hid (k ≤ bs.length) := hk
  clear hk
  by_cases hE : E = 0
  · have hf : fallR bs k = (9223372036854775807 - V, P, 0) := by unfold fallR; rw [← hR]; simp [hE]
    rw [hf]
    subst hE
    have HV : Hid (((9223372036854775807 : Int) - (V : Int)) = ((9223372036854775807 - V : Nat) : Int)) := by unfold Hid; omega
    have hV : (V : Int) ≤ 9223372036854775807 := by omega
    clear hf hR hl
    go_enter Tryd.func59, Tryd.ntmps59
    go_wp2_with fail
    refine (readRising_at hr _ k rfl HK.out HR.out).mono ?_
    rintro e w1 ⟨rfl, rfl⟩
    go_wp2
    go_ret3
    refine ⟨?_, rfl⟩
    exact congrArg (fun z : Int => Ending.returned (Value.tuple #[Value.int .i64 z, Value.int .i64 (P : Int), Value.int .i64 0])) HV.out
  · have hf : fallR bs k = (0, 0, E) := by unfold fallR; rw [← hR]; simp [hE]
    rw [hf]
    have e1 : ((E : Int) != 0) = true := by simp; omega
    clear hf hR hl
    go_enter Tryd.func59, Tryd.ntmps59
    go_wp2_with fail
    refine (readRising_at hr _ k rfl HK.out HR.out).mono ?_
    rintro e w1 ⟨rfl, rfl⟩
    go_wp2
    go_ret3
    exact ⟨rfl, rfl⟩

end Go.Proofs.YtledfniedoapiaaDoor

namespace Go.Proofs.YtledfniedoapiaaDoor
open Go.RowKit
set_option linter.unusedVariables false

theorem ints_at {w : World} {x : Addr} {bs : List Nat} (h : At w (some x) bs) : ∀ i, i < bs.length → w.cell? (x.add i) = some (.int .u8 ((bs.map fun n : Nat => (n : Int)).getD i 0)) := by
  intro i hi
  have := h.add i (.int .u8 ((bs.getD i 0 : Nat) : Int)) (by simp [bv, List.getElem?_eq_getElem hi])
  rw [this]
  simp [List.getElem?_eq_getElem hi]

theorem count_eq (bs : List Nat) (h : Bys bs) : Lib.countByte (Lib.bytesOf (bs.map fun n : Nat => (n : Int))) (0 : Int).toNat.toUInt8 = bs.count 0 := by
  unfold Lib.countByte Lib.bytesOf
  induction bs with
  | nil => rfl
  | cons c r ih =>
    have hc := h c (by simp)
    have ih' := ih (fun x hx => h x (by simp [hx]))
    simp only [List.map_cons, List.count_cons]
    rw [ih']
    congr 1
    have e : (UInt8.ofNat ((c : Int)).toNat == (0 : Int).toNat.toUInt8) = (c == 0) := by
      rw [Int.toNat_natCast]
      by_cases h0 : c = 0
      · subst h0; rfl
      · have : UInt8.ofNat c ≠ (0 : Int).toNat.toUInt8 := by
          intro hh
          have h2 := congrArg UInt8.toNat hh
          simp at h2
          omega
        rw [beq_eq_false_iff_ne.2 this, beq_eq_false_iff_ne.2 h0]
    rw [e]

set_option maxRecDepth 100000 in
set_option maxHeartbeats 1000000 in
theorem count_any {v : Value} {bs : List Nat} {w : World} (hr : Rd w v bs) (g : Nat) (hg : w.cell? ⟨g, 0, none⟩ = some (.int .u8 0)) :
    Calls Tryd.prog 68 #[v, .slice (some ⟨g, 0, none⟩) 1 1] w fun e w' => e = .returned (.int .i64 ((bs.count 0 : Nat) : Int)) ∧ w' = w := by
  obtain ⟨hby, a, cap, rfl, hle, hm, hl48, hnone, hat⟩ := hr
  cases a with
  | none =>
    have hb0 : bs = [] ∧ cap = 0 := by
      rcases hnone with h | ⟨b, off, h⟩
      · exact ⟨List.eq_nil_of_length_eq_zero (by omega), h⟩
      · cases h
    obtain ⟨rfl, rfl⟩ := hb0
    go_enter Tryd.func68, Tryd.ntmps68
    go_wp2
    rw [run_callFunc_extern Tryd.func72 (by kernel_rfl) (by kernel_rfl) (by kernel_rfl) (e := Extern.BytealgCount.count) (by kernel_rfl), Lib.run_countNil w 0 0 0]
    simp only [Result.andThen]
    rw [Oper.upon_value]
    go_wp2
    go_ret
    exact ⟨rfl, rfl⟩
  | some x =>
    have hi := ints_at hat
    obtain ⟨n, hn⟩ : ∃ n, n = bs.length := ⟨_, rfl⟩
    have hc := Lib.run_countAt (P := Tryd.prog) w x n cap (bs.map fun n : Nat => (n : Int)) (by simp [hn]) (by rw [hn]; exact hi) 0
    rw [← hn]
    have HN : Hid (n = bs.length) := hn
    have HCT : Hid (Lib.countByte (Lib.bytesOf (bs.map fun n : Nat => (n : Int))) (0 : Int).toNat.toUInt8 = bs.count 0) := count_eq bs hby
    obtain ⟨C, hC⟩ : ∃ C, C = Lib.countByte (Lib.bytesOf (bs.map fun n : Nat => (n : Int))) (0 : Int).toNat.toUInt8 := ⟨_, rfl⟩
    rw [← hC] at hc
    have HC : Hid (C = bs.count 0) := by unfold Hid; rw [hC]; exact HCT.out
    clear hn hi hat hnone hle hl48 hC HCT
    go_enter Tryd.func68, Tryd.ntmps68
    go_wp2
    rw [run_callFunc_extern Tryd.func72 (by kernel_rfl) (by kernel_rfl) (by kernel_rfl) (e := Extern.BytealgCount.count) (by kernel_rfl), hc]
    simp only [Result.andThen]
    rw [Oper.upon_value]
    go_wp2
    go_ret
    rw [← HC.out]
    exact ⟨rfl, rfl⟩

def escL : List Nat → List Nat
  | [] => []
  | c :: r => if c = 0 then 0 :: 255 :: escL r else c :: escL r
def ordL (bs : List Nat) : List Nat := escL bs ++ [0, 1]
theorem escL_append (a b : List Nat) : escL (a ++ b) = escL a ++ escL b := by
  induction a with
  | nil => rfl
  | cons c a ih =>
    simp only [List.cons_append, escL]
    split <;> simp [ih]
theorem escL_len (bs : List Nat) : (escL bs).length = bs.length + bs.count 0 := by
  induction bs with
  | nil => rfl
  | cons c r ih =>
    simp only [escL, List.count_cons]
    by_cases h : c = 0
    · subst h; simp [ih]; omega
    · simp [h, ih]; omega
theorem ordL_len (bs : List Nat) : (ordL bs).length = bs.length + bs.count 0 + 2 := by unfold ordL; rw [List.length_append, escL_len]; rfl
theorem escL_bys (bs : List Nat) (h : Bys bs) : Bys (escL bs) := by
  induction bs with
  | nil => intro x hx; simp [escL] at hx
  | cons c r ih =>
    have ih' := ih (fun x hx => h x (by simp [hx]))
    have hc := h c (by simp)
    simp only [escL]
    split
    · intro x hx
      simp only [List.mem_cons] at hx
      rcases hx with rfl | rfl | hx
      · omega
      · omega
      · exact ih' x hx
    · intro x hx
      simp only [List.mem_cons] at hx
      rcases hx with rfl | hx
      · exact hc
      · exact ih' x hx
theorem ordL_bys (bs : List Nat) (h : Bys bs) : Bys (ordL bs) := (escL_bys bs h).app (by intro x hx; simp at hx; omega)
theorem escL_le (bs : List Nat) (t : Nat) : (escL (bs.take t)).length ≤ (escL bs).length := by
  conv => rhs; rw [← List.take_append_drop t bs, escL_append]
  simp

theorem own_room {w : World} {B : Nat} {v : Value} {m n C m1 : Nat} {xs : List Nat} (h : Own w B v m (xs ++ [0])) (hm : m1 ≤ n + C) (hs : n + C + 2 ≤ 140737488355328) (h1 : m1 = xs.length) : m + 1 ≤ 140737488355328 := by
  have := h.1
  rw [List.length_append] at this
  simp at this
  omega

set_option maxRecDepth 100000 in
set_option maxHeartbeats 1000000 in
theorem ordered_any {v : Value} {bs : List Nat} {w : World} (hr : Rd w v bs) (hl : (ordL bs).length ≤ 140737488355328) :
    Calls Tryd.prog 47 #[v] w fun e w' => ∃ a m c, e = .returned (.slice a m c) ∧ Own w' w.heap.size (.slice a m c) m (ordL bs) ∧ Below w.heap.size w w' := by
  obtain ⟨i0, hi, hz0, hz1, hz2⟩ := info_parts info_byte
  obtain ⟨a, n, cap, rfl⟩ := rd_slice hr
  obtain ⟨hn, hle, hm, hl48⟩ := rd_lens hr
  have HN : Hid (n = bs.length) := hn
  have hol := ordL_len bs
  rw [← hn] at hol
  obtain ⟨C, hC⟩ : ∃ C, C = bs.count 0 := ⟨_, rfl⟩
  rw [← hC] at hol
  have hsum : n + C + 2 ≤ 140737488355328 := by omega
  have HC : Hid (C = bs.count 0) := hC
  have HOL : Hid ((ordL bs).length = n + C + 2) := hol
  clear hn hC hm hol hl
  have A1 := (Below.refl w.heap.size w).alloc (Nat.le_refl _) (.cells #[.int .u8 0] 5)
  have hg : (w.alloc (.cells #[.int .u8 0] 5)).cell? ⟨w.heap.size, 0, none⟩ = some (.int .u8 0) := news_new w [.int .u8 0] 5 0 _ rfl
  go_enter Tryd.func47, Tryd.ntmps47
  go_wp2_with fail
  refine (count_any (hr.later A1) _ hg).mono ?_
  rintro e w1 ⟨rfl, rfl⟩
  rw [← HC.out]
  have hs1 := A1.size
  clear hg
  go_wp2_with (at_make; refine wpList_make_own _ rfl _ _ 23 rfl w.heap.size 5 i0 (.int .u8 0) 1 und_bytes hi hz0 hz1 .i64 .i64 _ (n + C + 2) rfl rfl ?c0 ?c1 ?c2 ?c3 ?_)
  case c0 => omega
  case c1 => rw [hz2]; omega
  case c2 => unfold maxLen; omega
  case c3 => exact hs1
  intro w2 hown2 hg2
  have hb2 : Below w.heap.size w w2 := A1.grown hg2 hs1 (fun k hk => by simp at hk)
  clear hg2 A1 hs1
  have own2 : Own w2 w.heap.size (.slice (some ⟨w.heap.size + 1, 0, none⟩) 0 (n + C + 2)) 0 [] := ⟨rfl, hown2⟩
  clear hown2
  go_wp2
  go_loopw [3, 16] (fun s i wr => ∃ t a m c, t ≤ n ∧ i = .int .i64 ((t : Nat) : Int) ∧ s = .slice a m c ∧ Own wr w.heap.size (.slice a m c) m (escL (bs.take t)) ∧ Below w.heap.size w wr) (fun _ i _ => n - (intOf i).toNat)
  case atStart => exact ⟨0, _, _, _, Nat.zero_le _, rfl, rfl, own2, hb2⟩
  case round =>
    obtain ⟨t, a1, m1, c1, htl, rfl, rfl, own1, hb1⟩ := hrel
    have hs1 := hb1.size
    have hme := escL_le bs t
    have hm1 : m1 ≤ n + C := by
      rw [own1.1]
      have := HOL.out
      unfold ordL at this
      rw [List.length_append] at this
      simp at this
      omega
    clear hme
    by_cases hlt : t < n
    · have hlt2 : (t : Int) < (n : Int) := by omega
      rcases rd_some hr with ⟨_, h0, _⟩ | ⟨b, off, rfl⟩
      · omega
      obtain ⟨hcell0, hcl⟩ := rd_cell hr t hlt
      have hcell : wr.cell? ⟨b, off + t, none⟩ = some (.int .u8 ((bs.getD t 0 : Nat) : Int)) := by
        rw [hb1.cell (p := ⟨b, off + t, none⟩) (World.block_lt_of_cell? w _ hcell0)]; exact hcell0
      have htk := take_succ_getD bs t (by rw [← HN.out]; exact hlt)
      obtain ⟨c, hcd⟩ : ∃ c, c = bs.getD t 0 := ⟨_, rfl⟩
      rw [← hcd] at hcell hcl htk
      have HTK : Hid (bs.take (t + 1) = bs.take t ++ [c]) := htk
      clear hcd htk hcell0
      by_cases hc0 : c = 0
      · subst hc0
        have HE : Hid (escL (bs.take (t + 1)) = (escL (bs.take t) ++ [0]) ++ [255]) := by
          unfold Hid; rw [HTK.out, escL_append]; simp [escL]
        go_wp2_with (first
          | (at_builtin; refine wpList_append_new rfl (.tmp 20) _ rfl w.heap.size a1 m1 c1 _ rfl own1 [_] 1 rfl [0] rfl rfl (by omega) hs1 ?_; intro a3 m3 c3 w3 own3 hb3)
          | (at_builtin; refine wpList_append_new rfl (.tmp 26) _ rfl w.heap.size a3 m3 c3 _ rfl own3 [_] 1 rfl [255] rfl rfl (own_room own3 hm1 hsum own1.1) (hb1.trans hb3).size ?_; intro a4 m4 c4 w4 own4 hb4))
        go_roundw
        case rel => exact ⟨t + 1, a4, m4, c4, by omega, by go_num, rfl, by rw [HE.out]; exact own4, (hb1.trans hb3).trans hb4⟩
        case measure => simp [intOf]; omega
      · have HE : Hid (escL (bs.take (t + 1)) = escL (bs.take t) ++ [c]) := by
          unfold Hid; rw [HTK.out, escL_append]; simp [escL, hc0]
        have hcb : ((c : Int) == 0) = false := by simp; omega
        clear hc0
        go_wp2_with (at_builtin; refine wpList_append_new rfl (.tmp 20) _ rfl w.heap.size a1 m1 c1 _ rfl own1 [_] 1 rfl [c] rfl rfl (by omega) hs1 ?_; intro a3 m3 c3 w3 own3 hb3)
        go_roundw
        case rel => exact ⟨t + 1, a3, m3, c3, by omega, by go_num, rfl, by rw [HE.out]; exact own3, hb1.trans hb3⟩
        case measure => simp [intOf]; omega
    · have hge : (n : Int) ≤ (t : Int) := by omega
      have HE : Hid (escL (bs.take t) = escL bs) := by unfold Hid; rw [List.take_of_length_le (by rw [← HN.out]; omega)]
      go_wp2_with (at_builtin; refine wpList_append_new rfl (.tmp 30) _ rfl w.heap.size a1 m1 c1 _ rfl own1 [_, _] 2 rfl [0, 1] rfl rfl (by omega) hs1 ?_; intro a3 m3 c3 w3 own3 hb3)
      go_ret
      refine ⟨a3, m3, c3, rfl, ?_, hb1.trans hb3⟩
      unfold ordL
      rw [← HE.out]
      exact own3

/-- The place of the first nought. -/
def zi : List Nat → Int
  | [] => -1
  | b :: l => if b = 0 then 0 else if zi l = -1 then -1 else zi l + 1
theorem zi_eq (bs : List Nat) (h : Bys bs) : Lib.indexByte (Lib.bytesOf (bs.map fun n : Nat => (n : Int))) (0 : Int).toNat.toUInt8 = zi bs := by
  induction bs with
  | nil => rfl
  | cons c r ih =>
    have hc := h c (by simp)
    have ih' := ih (fun x hx => h x (by simp [hx]))
    have hd : Lib.bytesOf ((c :: r).map fun n : Nat => (n : Int)) = UInt8.ofNat c :: Lib.bytesOf (r.map fun n : Nat => (n : Int)) := by simp [Lib.bytesOf]
    rw [hd]
    simp only [Lib.indexByte, zi]
    rw [ih']
    have e : (UInt8.ofNat c == (0 : Int).toNat.toUInt8) = (c == 0) := by
      by_cases h0 : c = 0
      · subst h0; rfl
      · have : UInt8.ofNat c ≠ (0 : Int).toNat.toUInt8 := by
          intro hh
          have h2 := congrArg UInt8.toNat hh
          simp at h2
          omega
        rw [beq_eq_false_iff_ne.2 this, beq_eq_false_iff_ne.2 h0]
    rw [e]
    by_cases h0 : c = 0
    · simp [h0]
    · simp [h0]
theorem run_index_any {P : Program} (w : World) (a : Addr) (n c : Nat) (xs : List Int) (hx : xs.length = n) (hc : ∀ i, i < n → w.cell? (a.add i) = some (.int .u8 (xs.getD i 0))) (cv : Int) :
    (Extern.BytealgIndexByte.indexByte #[.slice (some a) n c, .int .u8 cv]).run P w = .ok (.int .i64 (Lib.indexByte (Lib.bytesOf xs) cv.toNat.toUInt8)) w := by
  by_cases hn : n = 0
  · subst hn
    have hx0 : xs = [] := List.eq_nil_of_length_eq_zero hx
    subst hx0
    have h1 := Lib.run_indexByteString (P := P) .empty cv w
    have hl := Lib.run_loadBytesX (P := P) w [] a .empty (fun j x hj => by simp at hj)
    change Sem.run P (do
      let b ← Extern.Bytes.bytesOf (.slice (some a) 0 c)
      let c ← Extern.Bytes.asByte (.int .u8 cv)
      match (List.range b.size).find? fun i => b[i]! == c with
      | some i => pure (goInt i)
      | none => pure (goInt (-1))) w = _
    rfl
  · obtain ⟨b, off, spot⟩ := a
    have h0 := hc 0 (by omega)
    have hspot : spot = none := by simpa [Addr.add] using World.cell?_spot h0
    subst hspot
    refine Lib.run_indexByteSlice w b off n c xs hx (fun i hi => ?_) cv
    have e : (⟨b, off, none⟩ : Addr).add i = ⟨b, off + i, none⟩ := by unfold Addr.add; split <;> simp_all
    rw [← e]
    exact hc i hi

set_option maxRecDepth 100000 in
set_option maxHeartbeats 1000000 in
theorem indexByte_any {v : Value} {bs : List Nat} {w : World} (hr : Rd w v bs) :
    Calls Tryd.prog 50 #[v, .int .u8 0] w fun e w' => e = .returned (.int .i64 (zi bs)) ∧ w' = w := by
  obtain ⟨hby, a, cap, rfl, hle, hm, hl48, hnone, hat⟩ := hr
  cases a with
  | none =>
    have hb0 : bs = [] ∧ cap = 0 := by
      rcases hnone with h | ⟨b, off, h⟩
      · exact ⟨List.eq_nil_of_length_eq_zero (by omega), h⟩
      · cases h
    obtain ⟨rfl, rfl⟩ := hb0
    go_enter Tryd.func50, Tryd.ntmps50
    go_wp2
    rw [run_callFunc_extern Tryd.func69 (by kernel_rfl) (by kernel_rfl) (by kernel_rfl) (e := Extern.BytealgIndexByte.indexByte) (by kernel_rfl), Lib.run_indexByteNil w 0 0 0]
    simp only [Result.andThen]
    rw [Oper.upon_value]
    go_wp2
    go_ret
    exact ⟨rfl, rfl⟩
  | some x =>
    have hi := ints_at hat
    obtain ⟨n, hn⟩ : ∃ n, n = bs.length := ⟨_, rfl⟩
    have hc := run_index_any (P := Tryd.prog) w x n cap (bs.map fun n : Nat => (n : Int)) (by simp [hn]) (by rw [hn]; exact hi) 0
    rw [zi_eq bs hby] at hc
    rw [← hn]
    clear hn hi hat hnone hle hl48
    obtain ⟨Z, hZ⟩ : ∃ Z, Z = zi bs := ⟨_, rfl⟩
    rw [← hZ] at hc ⊢
    clear hZ
    go_enter Tryd.func50, Tryd.ntmps50
    go_wp2
    rw [run_callFunc_extern Tryd.func69 (by kernel_rfl) (by kernel_rfl) (by kernel_rfl) (e := Extern.BytealgIndexByte.indexByte) (by kernel_rfl), hc]
    simp only [Result.andThen]
    rw [Oper.upon_value]
    go_wp2
    go_ret
    exact ⟨rfl, rfl⟩

end Go.Proofs.YtledfniedoapiaaDoor

namespace Go.Proofs.YtledfniedoapiaaDoor
open Go.RowKit
set_option linter.unusedVariables false

theorem flat_le (ps : List (List Nat)) (k : Nat) : (ps.take k).flatten.length ≤ ps.flatten.length := by
  conv => rhs; rw [← List.take_append_drop k ps, List.flatten_append]
  simp

set_option maxRecDepth 100000 in
set_option maxHeartbeats 1000000 in
theorem join_any {v : Value} {ps : List (List Nat)} {w : World} (hp : RdP w v ps) (hl : ps.flatten.length ≤ 140737488355328) :
    Calls Tryd.prog 6 #[v] w fun e w' => ∃ a m c, e = .returned (.slice a m c) ∧ Own w' w.heap.size (.slice a m c) m ps.flatten ∧ Below w.heap.size w w' := by
  obtain ⟨hn, a, cap, rfl, hp⟩ := hp
  obtain ⟨n, hnn⟩ : ∃ n, n = ps.length := ⟨_, rfl⟩
  rw [← hnn] at hn hp ⊢
  have HN : Hid (n = ps.length) := hnn
  clear hnn
  go_enter Tryd.func6, Tryd.ntmps6
  go_wp2
  go_loopw [3, 4] (fun s i wr => ∃ k a m c, k ≤ n ∧ i = .int .i64 ((k : Nat) : Int) ∧ s = .slice a m c ∧ Own wr w.heap.size (.slice a m c) m (ps.take k).flatten ∧ Below w.heap.size w wr) (fun _ i _ => n - (intOf i).toNat)
  case atStart => exact ⟨0, _, _, _, Nat.zero_le _, rfl, rfl, ⟨rfl, World.ownsRow_nil _ _ _ _⟩, Below.refl _ _⟩
  case round =>
    obtain ⟨k, a1, m1, c1, hk, rfl, rfl, own1, hb1⟩ := hrel
    by_cases hlt : k < n
    · have hlt2 : (k : Int) < (n : Int) := by omega
      rcases hp with hp | ⟨b, off, rfl, hc⟩
      · have := HN.out; rw [hp] at this; simp at this; omega
      obtain ⟨u, hu, hru⟩ := hc k hlt
      clear hc
      obtain ⟨a2, n2, cap2, rfl⟩ := rd_slice hru
      have hu1 : wr.cell? ⟨b, off + k, none⟩ = some (.slice a2 n2 cap2) := by
        rw [hb1.cell (p := ⟨b, off + k, none⟩) (World.block_lt_of_cell? w _ hu)]; exact hu
      have hs1 := hb1.size
      have hfl := flat_snoc ps k (by rw [← HN.out]; exact hlt)
      have hle2 := flat_le ps (k + 1)
      have hm12 : m1 + n2 ≤ 140737488355328 := by
        rw [hfl, List.length_append, ← own1.1, ← (rd_lens hru).1] at hle2
        omega
      have HF : Hid ((ps.take (k + 1)).flatten = (ps.take k).flatten ++ ps.getD k []) := hfl
      clear hfl hle2 hu
      go_wp2_with (at_builtin; refine wpList_append_at rfl _ _ rfl w.heap.size a1 m1 c1 _ rfl own1 a2 n2 cap2 _ rfl (hru.later hb1) hm12 hs1 ?_; intro a5 m5 c5 w5 own5 hb5)
      go_roundw
      case rel => exact ⟨k + 1, a5, m5, c5, by omega, by go_num, rfl, by rw [HF.out]; exact own5, hb1.trans hb5⟩
      case measure => simp [intOf]; omega
    · have hge : (n : Int) ≤ (k : Int) := by omega
      have HF : Hid ((ps.take k).flatten = ps.flatten) := by unfold Hid; rw [List.take_of_length_le (by rw [← HN.out]; omega)]
      go_wp2
      go_ret
      exact ⟨a1, m1, c1, rfl, by rw [← HF.out]; exact own1, hb1⟩

end Go.Proofs.YtledfniedoapiaaDoor
