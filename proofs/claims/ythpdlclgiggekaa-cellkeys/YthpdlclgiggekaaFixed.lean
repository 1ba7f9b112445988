import Derived.Test.YthpdlclgiggekaaStarted
namespace Go.Proofs.Ythpdlclgiggekaa
open Go.RowKit
set_option linter.unusedVariables false

/-- Eight bytes, the highest first. -/
def be8 (n : Nat) : List Nat := [n / 2 ^ 56 % 256, n / 2 ^ 48 % 256, n / 2 ^ 40 % 256, n / 2 ^ 32 % 256, n / 2 ^ 24 % 256, n / 2 ^ 16 % 256, n / 2 ^ 8 % 256, n % 256]
theorem be8_bys (n : Nat) : Bys (be8 n) := by intro x hx; simp [be8] at hx; omega
theorem be8_get (n t : Nat) (h : t < 8) : (be8 n).getD t 0 = n / 2 ^ (8 * (7 - t)) % 256 := by
  match t, h with
  | 0, _ => rfl
  | 1, _ => rfl
  | 2, _ => rfl
  | 3, _ => rfl
  | 4, _ => rfl
  | 5, _ => rfl
  | 6, _ => rfl
  | 7, _ => simp [be8]
def fill8 (n t : Nat) : List Nat := (be8 n).take t ++ List.replicate (8 - t) 0
theorem fill8_len (n t : Nat) (h : t ≤ 8) : (fill8 n t).length = 8 := by simp [fill8, be8]; omega
theorem fill8_next (n t : Nat) (h : t < 8) : (fill8 n t).set t ((be8 n).getD t 0) = fill8 n (t + 1) := by
  match t, h with
  | 0, _ => rfl
  | 1, _ => rfl
  | 2, _ => rfl
  | 3, _ => rfl
  | 4, _ => rfl
  | 5, _ => rfl
  | 6, _ => rfl
  | 7, _ => rfl

set_option maxRecDepth 100000 in
set_option maxHeartbeats 400000 in
theorem rising_neg (z : Int) (hz : z < 0) (w : World) : Calls Try.prog 109 #[.int .i64 z] w fun e w' => e = .returned (.tuple #[.slice none 0 0, .int .i64 1]) ∧ w' = w := by
  go_enter Try.func109, Try.ntmps109
  go_wp2
  go_ret2
  exact ⟨rfl, rfl⟩

set_option maxRecDepth 100000 in
set_option maxHeartbeats 1000000 in
theorem rising_any (n : Nat) (hn : n < 9223372036854775808) (w : World) :
    Calls Try.prog 109 #[.int .i64 (n : Int)] w fun e w' => ∃ a m c, e = .returned (.tuple #[.slice a m c, .int .i64 0]) ∧ Own w' w.heap.size (.slice a m c) m (be8 n) ∧ Below w.heap.size w w' := by
  have h0 : (0 : Int) ≤ (n : Int) := by omega
  have hmk : ∀ w, (Instr.makeSlice 33 (.int .i64 8) (.int .i64 8)).run Try.prog w = .ok (.slice (some ⟨w.heap.size, 0, none⟩) 8 8) (w.alloc (.cells #[.int .u8 0, .int .u8 0, .int .u8 0, .int .u8 0, .int .u8 0, .int .u8 0, .int .u8 0, .int .u8 0] 5)) := fun _ => by kernel_rfl
  go_enter Try.func109, Try.ntmps109
  go_wp2
  go_loopw [11] (fun i wr => ∃ t, t ≤ 8 ∧ i = .int .i64 ((t : Nat) : Int) ∧ Own wr w.heap.size (.slice (some ⟨w.heap.size, 0, none⟩) 8 8) 8 (fill8 n t) ∧ Below w.heap.size w wr) (fun i _ => 8 - (intOf i).toNat)
  case atStart =>
    refine ⟨0, by omega, rfl, ⟨rfl, ?_⟩, (Below.refl _ _).alloc (Nat.le_refl _) _⟩
    exact ⟨rfl, .inr ⟨w.heap.size, 8, _, rfl, Nat.le_refl _, heap_alloc_new w _, by omega, by unfold maxLen; omega, rfl, rfl⟩⟩
  case round =>
    obtain ⟨t, htl, rfl, ownk, hbk⟩ := hrel
    by_cases hlt : t < 8
    · have hlt2 : (t : Int) < 8 := by omega
      have hfz := ownk.2.frozenAt t
      have hcell : wr.cell? ⟨w.heap.size, t, none⟩ = some (.int .u8 (((fill8 n t).getD t 0 : Nat) : Int)) := by
        rw [ownk.2.cellAt t (by omega)]
        simp [bv, List.getElem?_eq_getElem (show t < (fill8 n t).length by rw [fill8_len n t (by omega)]; exact hlt)]
      obtain ⟨y, hy⟩ : ∃ y, y = (fill8 n t).getD t 0 := ⟨_, rfl⟩
      rw [← hy] at hcell
      clear hy
      have HOWN : Hid (Own wr w.heap.size (.slice (some ⟨w.heap.size, 0, none⟩) 8 8) 8 (fill8 n t)) := ownk
      have HBK : Hid (Below w.heap.size w wr) := hbk
      clear ownk hbk
      have hvv : ((n : Int) / 2 ^ (8 * (7 - t)) % 256) = (((be8 n).getD t 0 : Nat) : Int) := by
        rw [be8_get n t hlt]; simp
      have HVV : Hid (((n : Int) / 2 ^ (8 * (7 - t)) % 256) = (((be8 n).getD t 0 : Nat) : Int)) := hvv
      clear hvv
      go_wp2
      go_roundw
      case rel =>
        have st := HOWN.out.2.stored t (.int .u8 ((n : Int) / 2 ^ (8 * (7 - t)) % 256))
        refine ⟨t + 1, by omega, by go_num, ⟨by rw [fill8_len n (t + 1) (by omega)], ?_⟩, HBK.out.setCell (p := ⟨w.heap.size, t, none⟩) (Nat.le_refl _) _⟩
        have := st.1
        rw [HVV.out] at this ⊢
        have e : bv (fill8 n (t + 1)) = (bv (fill8 n t)).set t (.int .u8 (((be8 n).getD t 0 : Nat) : Int)) := by
          rw [← fill8_next n t hlt]
          simp [bv, List.map_set]
        rw [e]
        exact this
      case measure => simp [intOf]; omega
    · have hge : (8 : Int) ≤ (t : Int) := by omega
      obtain rfl : t = 8 := by omega
      have e : fill8 n 8 = be8 n := rfl
      rw [e] at ownk
      go_wp2
      go_ret2
      exact ⟨_, _, _, rfl, ownk, hbk⟩

theorem rising_at (z : Int) (n : Nat) (hz : z = (n : Int)) (hn : n < 9223372036854775808) (w : World) :
    Calls Try.prog 109 #[.int .i64 z] w fun e w' => ∃ a m c, e = .returned (.tuple #[.slice a m c, .int .i64 0]) ∧ Own w' w.heap.size (.slice a m c) m (be8 n) ∧ Below w.heap.size w w' := by
  subst hz; exact rising_any n hn w

set_option maxRecDepth 100000 in
set_option maxHeartbeats 400000 in
theorem falling_neg (z : Int) (hz : z < 0) (w : World) : Calls Try.prog 87 #[.int .i64 z] w fun e w' => e = .returned (.tuple #[.slice none 0 0, .int .i64 1]) ∧ w' = w := by
  go_enter Try.func87, Try.ntmps87
  go_wp2
  go_ret2
  exact ⟨rfl, rfl⟩
set_option maxRecDepth 100000 in
set_option maxHeartbeats 400000 in
theorem falling_any (n : Nat) (hn : n < 9223372036854775808) (w : World) :
    Calls Try.prog 87 #[.int .i64 (n : Int)] w fun e w' => ∃ a m c, e = .returned (.tuple #[.slice a m c, .int .i64 0]) ∧ Own w' w.heap.size (.slice a m c) m (be8 (9223372036854775807 - n)) ∧ Below w.heap.size w w' := by
  have h0 : (0 : Int) ≤ (n : Int) := by omega
  have h1 : (n : Int) ≤ 9223372036854775807 := by omega
  obtain ⟨q, hq⟩ : ∃ q, q = 9223372036854775807 - n := ⟨_, rfl⟩
  have HQ : Hid (((9223372036854775807 : Int) - (n : Int)) = (q : Int)) := by unfold Hid; omega
  have HQ2 : Hid (q < 9223372036854775808) := by unfold Hid; omega
  rw [← hq]
  clear hq
  go_enter Try.func87, Try.ntmps87
  go_wp2_with fail
  refine (rising_at _ q HQ.out HQ2.out _).mono ?_
  rintro e w1 ⟨a1, m1, c1, rfl, own1, hb1⟩
  go_wp2
  go_ret2
  exact ⟨a1, m1, c1, rfl, own1, hb1⟩

/-- What eight bytes say. -/
def num8 (l : List Nat) : Nat := l.foldl (fun v c => v * 256 + c) 0
theorem num8_lt (l : List Nat) (h : Bys l) : num8 l < 256 ^ l.length := by
  have key : ∀ (l : List Nat) (v k : Nat), Bys l → v < 256 ^ k → l.foldl (fun v c => v * 256 + c) v < 256 ^ (k + l.length) := by
    intro l
    induction l with
    | nil => intro v k _ hv; simpa using hv
    | cons c l ih =>
      intro v k hb hv
      have := ih (v * 256 + c) (k + 1) (fun x hx => hb x (by simp [hx])) (by have := hb c (by simp); rw [Nat.pow_succ]; omega)
      rw [show k + (c :: l).length = k + 1 + l.length by simp; omega]
      exact this
  have := key l 0 0 h (by simp)
  rw [Nat.zero_add] at this
  exact this
theorem num8_snoc (l : List Nat) (t : Nat) (h : t < l.length) : num8 (l.take (t + 1)) = num8 (l.take t) * 256 + l.getD t 0 := by
  rw [take_succ_getD l t h]
  simp [num8, List.foldl_append]
/-- What ReadRising answers. -/
def riseR (bs : List Nat) (k : Nat) : Nat × Nat × Nat :=
  if bs.length < k + 8 then (0, 0, 10)
  else if 9223372036854775807 < num8 ((bs.drop k).take 8) then (0, 0, 13)
  else (num8 ((bs.drop k).take 8), k + 8, 0)

set_option maxRecDepth 100000 in
set_option maxHeartbeats 400000 in
theorem readRising_out {v : Value} {bs : List Nat} {w : World} (hr : Rd w v bs) (at_ : Int) (h : at_ < 0 ∨ (bs.length : Int) < at_) :
    Calls Try.prog 122 #[v, .int .i64 at_] w fun e w' => e = .returned (.tuple #[.int .i64 0, .int .i64 0, .int .i64 1]) ∧ w' = w := by
  obtain ⟨a, n, cap, rfl⟩ := rd_slice hr
  obtain ⟨hn, hle, hm, hl48⟩ := rd_lens hr
  rw [← hn] at h
  clear hn hr
  have hd : decide (at_ < 0 ∨ (n : Int) < at_) = true := by simpa using h
  clear h
  go_enter Try.func122, Try.ntmps122
  go_wp2_with fail
  refine (outside_any at_ hl48).mono ?_
  rintro e w1 ⟨rfl, rfl⟩
  rw [hd]
  go_wp2
  go_ret3
  exact ⟨rfl, rfl⟩

set_option maxRecDepth 100000 in
set_option maxHeartbeats 1000000 in
theorem readRising_in {v : Value} {bs : List Nat} {w : World} (hr : Rd w v bs) (k : Nat) (hk : k ≤ bs.length) :
    Calls Try.prog 122 #[v, .int .i64 (k : Int)] w fun e w' => e = .returned (.tuple #[.int .i64 (((riseR bs k).1 : Nat) : Int), .int .i64 (((riseR bs k).2.1 : Nat) : Int), .int .i64 (((riseR bs k).2.2 : Nat) : Int)]) ∧ w' = w := by
  obtain ⟨a, n, cap, rfl⟩ := rd_slice hr
  obtain ⟨hn, hle, hm, hl48⟩ := rd_lens hr
  rw [← hn] at hk
  have HN : Hid (n = bs.length) := hn
  clear hn
  unfold maxLen at hm
  have hk2 : (k : Int) ≤ (n : Int) := by omega
  have hk0 : (0 : Int) ≤ (k : Int) := by omega
  have hd : decide ((k : Int) < 0 ∨ (n : Int) < (k : Int)) = false := by simp; omega
  by_cases h8 : n < k + 8
  · have hf : riseR bs k = (0, 0, 10) := by unfold riseR; rw [if_pos (by rw [← HN.out]; exact h8)]
    rw [hf]
    have e1 : (n : Int) - (k : Int) < 8 := by omega
    clear hf
    go_enter Try.func122, Try.ntmps122
    go_wp2_with fail
    refine (outside_any _ hl48).mono ?_
    rintro e w1 ⟨rfl, rfl⟩
    rw [hd]
    go_wp2
    go_ret3
    exact ⟨rfl, rfl⟩
  · have e1 : (8 : Int) ≤ (n : Int) - (k : Int) := by omega
    rcases rd_some hr with ⟨_, h0, _⟩ | ⟨b, off, rfl⟩
    · omega
    have hne : ¬ cap = k := by omega
    have rs := hr.sub k (k + 8) (by omega) (by omega) (off' := off + k) (n' := 8) (cap' := cap - k) rfl (by omega) rfl
    have eb : (bs.take (k + 8)).drop k = (bs.drop k).take 8 := by rw [List.drop_take]; congr 1; omega
    rw [eb] at rs
    obtain ⟨L, hL⟩ : ∃ L, L = (bs.drop k).take 8 := ⟨_, rfl⟩
    rw [← hL] at rs
    have hf : riseR bs k = if 9223372036854775807 < num8 L then (0, 0, 13) else (num8 L, k + 8, 0) := by
      unfold riseR; rw [if_neg (by rw [← HN.out]; exact h8), ← hL]
    have HL8 : Hid (L.length = 8) := by unfold Hid; rw [hL, List.length_take, List.length_drop, ← HN.out]; omega
    have HLB : Hid (Bys L) := rs.1
    obtain ⟨R, hR⟩ : ∃ R, R = riseR bs k := ⟨_, rfl⟩
    rw [← hR] at hf ⊢
    have HF : Hid (R = if 9223372036854775807 < num8 L then (0, 0, 13) else (num8 L, k + 8, 0)) := hf
    clear hR
    have hcells : ∀ t, t < 8 → w.cell? ⟨b, off + k + t, none⟩ = some (.int .u8 ((L.getD t 0 : Nat) : Int)) := fun t htt => (rd_cell rs t htt).1
    have HC : Hid (∀ t, t < 8 → w.cell? ⟨b, off + k + t, none⟩ = some (.int .u8 ((L.getD t 0 : Nat) : Int))) := hcells
    clear hf eb hL hcells rs hr
    go_enter Try.func122, Try.ntmps122
    go_wp2_with fail
    refine (outside_any _ hl48).mono ?_
    rintro e w1 ⟨rfl, rfl⟩
    rw [hd]
    go_wp2
    go_loop [7, 24] (fun x i => ∃ t q : Nat, t ≤ 8 ∧ i = .int .i64 (t : Int) ∧ x = .int .u64 (q : Int) ∧ q = num8 (L.take t) ∧ q < 256 ^ t) (fun _ i => 8 - (intOf i).toNat)
    case atStart => exact ⟨0, 0, by omega, rfl, rfl, rfl, by simp⟩
    case round =>
      obtain ⟨t, q, htl, rfl, rfl, hq, hql⟩ := hrel
      have HQ : Hid (q = num8 (L.take t)) := hq
      clear hq
      by_cases hlt : t < 8
      · have hlt2 : (t : Int) < 8 := by omega
        have hq7 : q < 72057594037927936 := Nat.lt_of_lt_of_le hql (by
          have : 256 ^ t ≤ 256 ^ 7 := Nat.pow_le_pow_right (by omega) (by omega)
          exact Nat.le_trans this (by decide))
        have hc := HC.out t hlt
        have hcl := HLB.out.get t
        obtain ⟨c, hcd⟩ : ∃ c, c = L.getD t 0 := ⟨_, rfl⟩
        rw [← hcd] at hc hcl
        have HCD : Hid (c = L.getD t 0) := hcd
        have HQL : Hid (q < 256 ^ t) := hql
        clear hcd hql
        have em : (c : Int) % 18446744073709551616 = (c : Int) := by omega
        have hor : bits .or .u64 ((q : Int) * 256) (c : Int) = ((q * 256 + c : Nat) : Int) := by
          have := u64_or_nat (q * 256) c (by omega) (by omega)
          rw [nat_join 8 (q * 256) c (by omega) (by omega)] at this
          rw [← this]
          simp
        obtain ⟨r, hr⟩ : ∃ r, r = q * 256 + c := ⟨_, rfl⟩
        rw [← hr] at hor
        have HR : Hid (r = q * 256 + c) := hr
        clear hr
        go_wp2
        go_round
        case rel =>
          refine ⟨t + 1, r, by omega, by go_num, by first | rfl | rw [hor], ?_, ?_⟩
          · rw [num8_snoc L t (by rw [HL8.out]; exact hlt), ← HQ.out, ← HCD.out]; exact HR.out
          · rw [HR.out, Nat.pow_succ]; have := HQL.out; omega
        case measure => simp [intOf]; omega
      · have hge : (8 : Int) ≤ (t : Int) := by omega
        obtain rfl : t = 8 := by omega
        have e8 : L.take 8 = L := List.take_of_length_le (by rw [HL8.out]; omega)
        have hqL := HQ.out
        rw [e8] at hqL
        have hq64 : q < 18446744073709551616 := hql
        have hRq := HF.out
        rw [← hqL] at hRq
        clear hql hqL e8
        by_cases hbig : 9223372036854775807 < q
        · rw [if_pos hbig] at hRq
          have HRQ : Hid (R = (0, 0, 13)) := hRq
          clear hRq
          have hb2 : (9223372036854775807 : Int) < (q : Int) := by omega
          clear hbig
          go_wp2
          go_ret3
          rw [HRQ.out]
          exact ⟨rfl, rfl⟩
        · rw [if_neg hbig] at hRq
          have HRQ : Hid (R = (q, k + 8, 0)) := hRq
          clear hRq
          have hb2 : (q : Int) ≤ 9223372036854775807 := by omega
          have hw : IntKind.i64.wrap (q : Int) = (q : Int) := by simp only [IntKind.wrap, IntKind.bits, IntKind.signed]; simp; omega
          have HE : Hid (((k : Int) + 8) = ((k + 8 : Nat) : Int)) := by unfold Hid; omega
          clear hbig
          go_wp2
          go_ret3
          rw [HRQ.out]
          refine ⟨?_, rfl⟩
          exact congrArg (fun z : Int => Ending.returned (Value.tuple #[Value.int .i64 (q : Int), Value.int .i64 z, Value.int .i64 0])) HE.out

theorem readRising_at {v : Value} {bs : List Nat} {w : World} (hr : Rd w v bs) (z : Int) (k : Nat) (hz : z = (k : Int)) (hk : k ≤ bs.length) {V P E : Nat} (h : riseR bs k = (V, P, E)) :
    Calls Try.prog 122 #[v, .int .i64 z] w fun e w' => e = .returned (.tuple #[.int .i64 (V : Int), .int .i64 (P : Int), .int .i64 (E : Int)]) ∧ w' = w := by
  subst hz
  have := readRising_in hr k hk
  rw [h] at this
  exact this

/-- What ReadFalling answers. -/
def fallR (bs : List Nat) (k : Nat) : Nat × Nat × Nat :=
  if (riseR bs k).2.2 ≠ 0 then (0, 0, (riseR bs k).2.2) else (9223372036854775807 - (riseR bs k).1, (riseR bs k).2.1, 0)
theorem riseR_lt (bs : List Nat) (k : Nat) : (riseR bs k).1 ≤ 9223372036854775807 ∧ (riseR bs k).2.2 ≤ 13 ∧ ((riseR bs k).2.2 ≠ 0 → (riseR bs k).2.1 = 0) ∧ (riseR bs k).2.1 ≤ k + 8 := by
  unfold riseR
  split
  · simp
  · split
    · simp
    · rename_i h1 h2
      refine ⟨by show num8 _ ≤ _; omega, by simp, by simp, by simp⟩

set_option maxRecDepth 100000 in
set_option maxHeartbeats 400000 in
theorem readFalling_out {v : Value} {bs : List Nat} {w : World} (hr : Rd w v bs) (at_ : Int) (h : at_ < 0 ∨ (bs.length : Int) < at_) :
    Calls Try.prog 112 #[v, .int .i64 at_] w fun e w' => e = .returned (.tuple #[.int .i64 0, .int .i64 0, .int .i64 1]) ∧ w' = w := by
  go_enter Try.func112, Try.ntmps112
  go_wp2_with fail
  refine (readRising_out hr at_ h).mono ?_
  rintro e w1 ⟨rfl, rfl⟩
  go_wp2
  go_ret3
  exact ⟨rfl, rfl⟩
set_option maxRecDepth 100000 in
set_option maxHeartbeats 400000 in
theorem readFalling_in {v : Value} {bs : List Nat} {w : World} (hr : Rd w v bs) (k : Nat) (hk : k ≤ bs.length) :
    Calls Try.prog 112 #[v, .int .i64 (k : Int)] w fun e w' => e = .returned (.tuple #[.int .i64 (((fallR bs k).1 : Nat) : Int), .int .i64 (((fallR bs k).2.1 : Nat) : Int), .int .i64 (((fallR bs k).2.2 : Nat) : Int)]) ∧ w' = w := by
  have hl := riseR_lt bs k
  obtain ⟨R, hR⟩ : ∃ R, R = riseR bs k := ⟨_, rfl⟩
  obtain ⟨V, P, E⟩ := R
  rw [← hR] at hl
  simp only at hl
  have HR : Hid (riseR bs k = (V, P, E)) := hR.symm
  have HK : Hid (k ≤ bs.length) := hk
  clear hk
  by_cases hE : E = 0
  · have hf : fallR bs k = (9223372036854775807 - V, P, 0) := by unfold fallR; rw [← hR]; simp [hE]
    rw [hf]
    subst hE
    have HV : Hid (((9223372036854775807 : Int) - (V : Int)) = ((9223372036854775807 - V : Nat) : Int)) := by unfold Hid; omega
    have hV : (V : Int) ≤ 9223372036854775807 := by omega
    clear hf hR hl
    go_enter Try.func112, Try.ntmps112
    go_wp2_with fail
    refine (readRising_at hr _ k rfl HK.out HR.out).mono ?_
    rintro e w1 ⟨rfl, rfl⟩
    go_wp2
    go_ret3
    refine ⟨?_, rfl⟩
    exact congrArg (fun z : Int => Ending.returned (Value.tuple #[Value.int .i64 z, Value.int .i64 (P : Int), Value.int .i64 0])) HV.out
  · have hf : fallR bs k = (0, 0, E) := by unfold fallR; rw [← hR]; simp [hE]
    rw [hf]
    have e1 : ((E : Int) != 0) = true := by simp; omega
    clear hf hR hl
    go_enter Try.func112, Try.ntmps112
    go_wp2_with fail
    refine (readRising_at hr _ k rfl HK.out HR.out).mono ?_
    rintro e w1 ⟨rfl, rfl⟩
    go_wp2
    go_ret3
    exact ⟨rfl, rfl⟩

end Go.Proofs.Ythpdlclgiggekaa
