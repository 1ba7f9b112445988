import Derived.Test.YtjcpjpjccoeakaaJ00
namespace Go.Proofs.Ytjcpjpjccoeakaa
open Go.RowKit
set_option linter.unusedVariables false

/-- What ReadUint reads of the bytes from a place on: i bytes are read, v is what they say; f: how many may follow. The number, how many bytes, the error. -/
def ruint : Nat → List Nat → Nat → Nat → Nat × Nat × Nat
  | _, [], _, _ => (0, 0, 10)
  | 0, c :: _, i, v => if i = 9 ∧ 1 < c then (0, 0, 13) else if 128 ≤ c then (0, 0, 13) else if c = 0 ∧ 0 < i then (0, 0, 11) else (v + c % 128 * 128 ^ i, i + 1, 0)
  | f + 1, c :: r, i, v => if i = 9 ∧ 1 < c then (0, 0, 13) else if 128 ≤ c then ruint f r (i + 1) (v + c % 128 * 128 ^ i) else if c = 0 ∧ 0 < i then (0, 0, 11) else (v + c % 128 * 128 ^ i, i + 1, 0)
/-- The number, the place behind it, the error. -/
def uintR (bs : List Nat) (k : Nat) : Nat × Nat × Nat :=
  ((ruint 9 (bs.drop k) 0 0).1, if (ruint 9 (bs.drop k) 0 0).2.2 = 0 then k + (ruint 9 (bs.drop k) 0 0).2.1 else 0, (ruint 9 (bs.drop k) 0 0).2.2)

set_option maxRecDepth 100000 in
set_option maxHeartbeats 400000 in
theorem readUint_out {v : Value} {bs : List Nat} {w : World} (hr : Rd w v bs) (at_ : Int) (h : at_ < 0 ∨ (bs.length : Int) < at_) :
    Calls Try.prog 93 #[v, .int .i64 at_] w fun e w' => e = .returned (.tuple #[.int .u64 0, .int .i64 0, .int .i64 1]) ∧ w' = w := by
  obtain ⟨a, n, cap, rfl⟩ := rd_slice hr
  obtain ⟨hn, hle, hm, hl48⟩ := rd_lens hr
  rw [← hn] at h
  clear hn hr
  have hd : decide (at_ < 0 ∨ (n : Int) < at_) = true := by simpa using h
  clear h
  go_enter Try.func93, Try.ntmps93
  go_wp2_with fail
  refine (outside_any at_ hl48).mono ?_
  rintro e w1 ⟨rfl, rfl⟩
  rw [hd]
  go_wp2
  go_ret3
  exact ⟨rfl, rfl⟩

theorem and7f (c : Nat) (h : c < 256) : bits .and .u8 (c : Int) 127 = ((c % 128 : Nat) : Int) := by
  have := u8_and_nat c 127 h (by omega)
  rw [nat_mask7] at this
  exact this
theorem and80 (c : Nat) (h : c < 256) : bits .and .u8 (c : Int) 128 = ((c / 128 * 128 : Nat) : Int) := by
  have := u8_and_nat c 128 h (by omega)
  rw [show (128 : Nat) = 2 ^ 7 from rfl, nat_bit 7 c] at this
  have h2 : c / 2 ^ 7 % 2 * 2 ^ 7 = c / 128 * 128 := by omega
  rw [h2] at this
  exact this

theorem pow7 (i : Nat) : 2 ^ (7 * i) = 128 ^ i := by rw [Nat.pow_mul]
theorem shl_lt (c i : Nat) (hi : i ≤ 9) (h9 : i = 9 → c ≤ 1) : c % 128 * 128 ^ i < 18446744073709551616 := by
  by_cases h : i = 9
  · have := h9 h
    subst h
    have : c % 128 ≤ 1 := by omega
    calc c % 128 * 128 ^ 9 ≤ 1 * 128 ^ 9 := Nat.mul_le_mul_right _ this
      _ < 18446744073709551616 := by decide
  · have h1 : 128 ^ i ≤ 128 ^ 8 := Nat.pow_le_pow_right (by omega) (by omega)
    calc c % 128 * 128 ^ i ≤ 127 * 128 ^ 8 := Nat.mul_le_mul (by omega) h1
      _ < 18446744073709551616 := by decide
theorem orshift (q c i : Nat) (hi : i ≤ 9) (hq : q < 128 ^ i) (h9 : i = 9 → c ≤ 1) : bits .or .u64 (q : Int) (IntKind.u64.wrap ((c : Int) % 128 * 2 ^ (7 * i))) = ((q + c % 128 * 128 ^ i : Nat) : Int) := by
  have hx := shl_lt c i hi h9
  have e1 : ((c : Int) % 128 * 2 ^ (7 * i)) = ((c % 128 * 128 ^ i : Nat) : Int) := by
    rw [← pow7 i]; simp
  have hq64 : q < 18446744073709551616 := Nat.lt_of_lt_of_le hq (by
    have h1 : 128 ^ i ≤ 128 ^ 9 := Nat.pow_le_pow_right (by omega) hi
    exact Nat.le_trans h1 (by decide))
  rw [e1, IntKind.wrap_u64]
  have e2 : ((c % 128 * 128 ^ i : Nat) : Int) % 18446744073709551616 = ((c % 128 * 128 ^ i : Nat) : Int) := by omega
  rw [e2, u64_or_nat _ _ hq64 hx, Nat.or_comm, nat_join (7 * i) _ _ (by rw [pow7]; simp) (by rw [pow7]; exact hq), Nat.add_comm]
theorem next_lt (q c i : Nat) (hq : q < 128 ^ i) : q + c % 128 * 128 ^ i < 128 ^ (i + 1) := by
  have h1 : c % 128 * 128 ^ i ≤ 127 * 128 ^ i := Nat.mul_le_mul_right _ (by omega)
  rw [Nat.pow_succ]
  omega
theorem tup3 {X X' Y Y' Z : Int} (h1 : X = X') (h2 : Y = Y') : Ending.returned (Value.tuple #[Value.int .u64 X, Value.int .i64 Y, Value.int .i64 Z]) = Ending.returned (Value.tuple #[Value.int .u64 X', Value.int .i64 Y', Value.int .i64 Z]) := by rw [h1, h2]

set_option maxRecDepth 100000 in
set_option maxHeartbeats 1000000 in
theorem readUint_in {v : Value} {bs : List Nat} {w : World} (hr : Rd w v bs) (k : Nat) (hk : k ≤ bs.length) :
    Calls Try.prog 93 #[v, .int .i64 (k : Int)] w fun e w' => e = .returned (.tuple #[.int .u64 (((uintR bs k).1 : Nat) : Int), .int .i64 (((uintR bs k).2.1 : Nat) : Int), .int .i64 (((uintR bs k).2.2 : Nat) : Int)]) ∧ w' = w := by
  obtain ⟨a, n, cap, rfl⟩ := rd_slice hr
  obtain ⟨hn, hle, hm, hl48⟩ := rd_lens hr
  rw [← hn] at hk
  have HN : Hid (n = bs.length) := hn
  clear hn
  unfold maxLen at hm
  have hk2 : (k : Int) ≤ (n : Int) := by omega
  have hk0 : (0 : Int) ≤ (k : Int) := by omega
  have hd : decide ((k : Int) < 0 ∨ (n : Int) < (k : Int)) = false := by simp; omega
  go_enter Try.func93, Try.ntmps93
  go_wp2_with fail
  refine (outside_any _ hl48).mono ?_
  rintro e w1 ⟨rfl, rfl⟩
  rw [hd]
  go_wp2
  go_loop [7, 8] (fun x y => ∃ i q : Nat, i ≤ 9 ∧ k + i ≤ n ∧ x = .int .u64 (q : Int) ∧ y = .int .i64 (i : Int) ∧ q < 128 ^ i ∧ ruint 9 (bs.drop k) 0 0 = ruint (9 - i) (bs.drop (k + i)) i q) (fun _ y => 10 - (intOf y).toNat)
  case atStart => exact ⟨0, 0, by omega, by omega, rfl, rfl, by simp, rfl⟩
  case round =>
    obtain ⟨i, q, hi, hki, rfl, rfl, hq, hru⟩ := hrel
    have HQ : Hid (q < 128 ^ i) := hq
    have HR : Hid (ruint 9 (bs.drop k) 0 0 = ruint (9 - i) (bs.drop (k + i)) i q) := hru
    clear hq hru
    by_cases hend : k + i = n
    · have e1 : ((k : Int) + (i : Int) == (n : Int)) = true := by simp; omega
      have hdr : bs.drop (k + i) = [] := by rw [hend, HN.out]; simp
      have HU : Hid (uintR bs k = (0, 0, 10)) := by
        unfold Hid uintR; rw [HR.out, hdr]; cases (9 - i) <;> rfl
      have hend2 : ¬ (k : Int) + (i : Int) < (n : Int) := by omega
      clear hend hdr
      go_wp2
      go_ret3
      rw [HU.out]
      exact ⟨rfl, rfl⟩
    · have e1 : ((k : Int) + (i : Int) == (n : Int)) = false := by simp; omega
      rcases rd_some hr with ⟨_, h0, _⟩ | ⟨b, off, rfl⟩
      · omega
      obtain ⟨hc, hcl⟩ := rd_cell hr (k + i) (by omega)
      have hdr : bs.drop (k + i) = bs.getD (k + i) 0 :: bs.drop (k + i + 1) := by
        rw [List.drop_eq_getElem_cons (by rw [← HN.out]; omega)]
        simp [List.getD, List.getElem?_eq_getElem (show k + i < bs.length by rw [← HN.out]; omega)]
      obtain ⟨c, hcd⟩ : ∃ c, c = bs.getD (k + i) 0 := ⟨_, rfl⟩
      rw [← hcd] at hc hcl hdr
      have HD : Hid (bs.drop (k + i) = c :: bs.drop (k + i + 1)) := hdr
      clear hdr hcd
      have hkn : (k : Int) + (i : Int) < (n : Int) := by omega
      have a7 := and7f c hcl
      have a8 := and80 c hcl
      by_cases hA : i = 9 ∧ 1 < c
      · have HU : Hid (uintR bs k = (0, 0, 13)) := by
          unfold Hid uintR; rw [HR.out, HD.out, hA.1]
          simp [ruint, hA.2]
        have e2 : ((i : Int) == 9) = true := by simp; omega
        have e3 : (1 : Int) < (c : Int) := by omega
        clear hA a7 a8
        go_wp2
        go_ret3
        rw [HU.out]
        exact ⟨rfl, rfl⟩
      · have hA9 : i = 9 → c ≤ 1 := fun h => by
          by_cases hc1 : 1 < c
          · exact absurd ⟨h, hc1⟩ hA
          · omega
        have hv := orshift q c i hi HQ.out hA9
        have hnx := next_lt q c i HQ.out
        obtain ⟨V, hV⟩ : ∃ V, V = q + c % 128 * 128 ^ i := ⟨_, rfl⟩
        rw [← hV] at hv hnx
        have HV : Hid (V = q + c % 128 * 128 ^ i) := hV
        have HX : Hid (V < 128 ^ (i + 1)) := hnx
        have hem : (c : Int) % 128 % 18446744073709551616 = (c : Int) % 128 := by omega
        clear hV hnx
        by_cases hB : 128 ≤ c
        · have hi8 : i ≤ 8 := by
            by_cases h : i = 9
            · have := hA9 h; omega
            · omega
          have e2 : ((i : Int) == 9) = false := by simp; omega
          have e4 : ((c : Int) / 128 * 128 != 0) = true := by simp; omega
          have HN2 : Hid (ruint 9 (bs.drop k) 0 0 = ruint (9 - (i + 1)) (bs.drop (k + (i + 1))) (i + 1) V) := by
            unfold Hid
            rw [HR.out, HD.out, show 9 - i = (9 - (i + 1)) + 1 by omega]
            conv => lhs; unfold ruint
            rw [if_neg hA, if_pos hB, ← HV.out]
            rfl
          clear hA hA9
          go_wp2
          go_round
          case rel => exact ⟨i + 1, V, by omega, by omega, by first | rfl | (rw [hv]), by go_num, HX.out, HN2.out⟩
          case measure => simp [intOf]; omega
        · have e4 : ((c : Int) / 128 * 128 != 0) = false := by simp; omega
          by_cases hC : c = 0 ∧ 0 < i
          · have HU : Hid (uintR bs k = (0, 0, 11)) := by
              unfold Hid uintR
              have : ruint (9 - i) (c :: bs.drop (k + i + 1)) i q = (0, 0, 11) := by
                cases h9 : 9 - i with
                | zero => unfold ruint; rw [if_neg hA, if_neg hB, if_pos hC]
                | succ f => unfold ruint; rw [if_neg hA, if_neg hB, if_pos hC]
              rw [HR.out, HD.out, this]
              rfl
            have e5 : ((c : Int) == 0) = true := by simp; omega
            have e6 : (0 : Int) < (i : Int) := by omega
            have e7 : (c : Int) ≤ 1 := by omega
            clear hA hA9 hC
            go_wp2
            all_goals go_ret3
            all_goals rw [HU.out]
            all_goals exact ⟨rfl, rfl⟩
          · have HU : Hid (uintR bs k = (V, k + i + 1, 0)) := by
              unfold Hid uintR
              have : ruint (9 - i) (c :: bs.drop (k + i + 1)) i q = (V, i + 1, 0) := by
                cases h9 : 9 - i with
                | zero => unfold ruint; rw [if_neg hA, if_neg hB, if_neg hC, HV.out]
                | succ f => unfold ruint; rw [if_neg hA, if_neg hB, if_neg hC, HV.out]
              rw [HR.out, HD.out, this]
              rfl
            have e8 : ((k : Int) + (i : Int) + 1) = ((k + i + 1 : Nat) : Int) := by omega
            have HE8 : Hid (((k : Int) + (i : Int) + 1) = ((k + i + 1 : Nat) : Int)) := e8
            clear hA e8
            by_cases h9 : i = 9
            · have := hA9 h9
              have e2 : ((i : Int) == 9) = true := by simp; omega
              have e7 : (c : Int) ≤ 1 := by omega
              have e5 : ((c : Int) == 0) = false := by simp; omega
              have H9 : Hid (i = 9) := h9
              clear hA9 hC h9
              go_wp2
              all_goals go_ret3
              all_goals rw [HU.out]
              all_goals exact ⟨tup3 (by first | rfl | exact hv) HE8.out, rfl⟩
            · have e2 : ((i : Int) == 9) = false := by simp; omega
              clear hA9
              by_cases hc0 : c = 0
              · have e5 : ((c : Int) == 0) = true := by simp; omega
                have e6 : (i : Int) ≤ 0 := by omega
                have H0 : Hid (c = 0) := hc0
                clear hC hc0
                go_wp2
                all_goals go_ret3
                all_goals rw [HU.out]
                all_goals exact ⟨tup3 (by first | rfl | exact hv) HE8.out, rfl⟩
              · have e5 : ((c : Int) == 0) = false := by simp; omega
                clear hC
                go_wp2
                all_goals go_ret3
                all_goals rw [HU.out]
                all_goals exact ⟨tup3 (by first | rfl | exact hv) HE8.out, rfl⟩

end Go.Proofs.Ytjcpjpjccoeakaa

namespace Go.Proofs.Ytjcpjpjccoeakaa
open Go.RowKit
set_option linter.unusedVariables false

theorem st1 : uintR [9, 172, 2] 1 = (300, 3, 0) := by decide
theorem st2 : (frameL [7]).length = 13 := by decide
theorem st3 : frameR (frameL [7]) 0 = ([7], 13, 0) := by decide
theorem st4 : uintL 300 = [172, 2] := by decide

theorem rd_new (w : World) (g : Nat) (hg : g = w.heap.size) (bs : List Nat) (vs : List Value) (hv : vs = bv bs) (hb : Bys bs) (hl : bs.length ≤ 1000) (n : Nat) (hn : n = bs.length) :
    Rd (w.alloc (.cells vs.toArray 5)) (.slice (some ⟨g, 0, none⟩) n n) bs := by
  subst hv hn hg
  refine ⟨hb, _, _, rfl, Nat.le_refl _, by unfold maxLen; omega, by omega, .inr ⟨w.heap.size, 0, rfl⟩, .inr ⟨w.heap.size, 0, rfl, fun i hi => ?_⟩⟩
  have := news_new w (bv bs) 5 i (.int .u8 ((bs.getD i 0 : Nat) : Int)) (by simp [bv, List.getElem?_eq_getElem hi])
  have e : (⟨w.heap.size, 0, none⟩ : Addr).add i = ⟨w.heap.size, 0 + i, none⟩ := by unfold Addr.add; split <;> simp_all
  rwa [e] at this

theorem readUint_at {v : Value} {bs : List Nat} {w : World} (hr : Rd w v bs) (z : Int) (k : Nat) (hz : z = (k : Int)) (hk : k ≤ bs.length) {V P E : Nat} (h : uintR bs k = (V, P, E)) :
    Calls Try.prog 93 #[v, .int .i64 z] w fun e w' => e = .returned (.tuple #[.int .u64 (V : Int), .int .i64 (P : Int), .int .i64 (E : Int)]) ∧ w' = w := by
  subst hz
  have := readUint_in hr k hk
  rw [h] at this
  exact this
theorem uint_at (z : Int) (v : Nat) (hz : z = (v : Int)) (hv : v < 18446744073709551616) (w : World) {L : List Nat} (hL : uintL v = L) :
    Calls Try.prog 91 #[.int .u64 z] w fun e w' => ∃ a m c, e = .returned (.slice a m c) ∧ Own w' w.heap.size (.slice a m c) m L ∧ Below w.heap.size w w' := by
  subst hz hL
  exact handed (uint_any v hv w)
theorem bys7 : Bys [7] := by intro x hx; simp at hx; omega

end Go.Proofs.Ytjcpjpjccoeakaa

namespace Go.Proofs.Ytjcpjpjccoeakaa
open Go.RowKit
set_option linter.unusedVariables false

/-- Eight bytes, the highest first. -/
def be8 (n : Nat) : List Nat := [n / 2 ^ 56 % 256, n / 2 ^ 48 % 256, n / 2 ^ 40 % 256, n / 2 ^ 32 % 256, n / 2 ^ 24 % 256, n / 2 ^ 16 % 256, n / 2 ^ 8 % 256, n % 256]
theorem be8_bys (n : Nat) : Bys (be8 n) := by intro x hx; simp [be8] at hx; omega
theorem be8_get (n t : Nat) (h : t < 8) : (be8 n).getD t 0 = n / 2 ^ (8 * (7 - t)) % 256 := by
  match t, h with
  | 0, _ => rfl
  | 1, _ => rfl
  | 2, _ => rfl
  | 3, _ => rfl
  | 4, _ => rfl
  | 5, _ => rfl
  | 6, _ => rfl
  | 7, _ => simp [be8]
def fill8 (n t : Nat) : List Nat := (be8 n).take t ++ List.replicate (8 - t) 0
theorem fill8_len (n t : Nat) (h : t ≤ 8) : (fill8 n t).length = 8 := by simp [fill8, be8]; omega
theorem fill8_next (n t : Nat) (h : t < 8) : (fill8 n t).set t ((be8 n).getD t 0) = fill8 n (t + 1) := by
  match t, h with
  | 0, _ => rfl
  | 1, _ => rfl
  | 2, _ => rfl
  | 3, _ => rfl
  | 4, _ => rfl
  | 5, _ => rfl
  | 6, _ => rfl
  | 7, _ => rfl

set_option maxRecDepth 100000 in
set_option maxHeartbeats 400000 in
theorem rising_neg (z : Int) (hz : z < 0) (w : World) : Calls Try.prog 109 #[.int .i64 z] w fun e w' => e = .returned (.tuple #[.slice none 0 0, .int .i64 1]) ∧ w' = w := by
  go_enter Try.func109, Try.ntmps109
  go_wp2
  go_ret2
  exact ⟨rfl, rfl⟩

set_option maxRecDepth 100000 in
set_option maxHeartbeats 1000000 in
theorem rising_any (n : Nat) (hn : n < 9223372036854775808) (w : World) :
    Calls Try.prog 109 #[.int .i64 (n : Int)] w fun e w' => ∃ a m c, e = .returned (.tuple #[.slice a m c, .int .i64 0]) ∧ Own w' w.heap.size (.slice a m c) m (be8 n) ∧ Below w.heap.size w w' := by
  have h0 : (0 : Int) ≤ (n : Int) := by omega
  have hmk : ∀ w, (Instr.makeSlice 33 (.int .i64 8) (.int .i64 8)).run Try.prog w = .ok (.slice (some ⟨w.heap.size, 0, none⟩) 8 8) (w.alloc (.cells #[.int .u8 0, .int .u8 0, .int .u8 0, .int .u8 0, .int .u8 0, .int .u8 0, .int .u8 0, .int .u8 0] 5)) := fun _ => by kernel_rfl
  go_enter Try.func109, Try.ntmps109
  go_wp2
  go_loopw [11] (fun i wr => ∃ t, t ≤ 8 ∧ i = .int .i64 ((t : Nat) : Int) ∧ Own wr w.heap.size (.slice (some ⟨w.heap.size, 0, none⟩) 8 8) 8 (fill8 n t) ∧ Below w.heap.size w wr) (fun i _ => 8 - (intOf i).toNat)
  case atStart =>
    refine ⟨0, by omega, rfl, ⟨rfl, ?_⟩, (Below.refl _ _).alloc (Nat.le_refl _) _⟩
    exact ⟨rfl, .inr ⟨w.heap.size, 8, _, rfl, Nat.le_refl _, heap_alloc_new w _, by omega, by unfold maxLen; omega, rfl, rfl⟩⟩
  case round =>
    obtain ⟨t, htl, rfl, ownk, hbk⟩ := hrel
    by_cases hlt : t < 8
    · have hlt2 : (t : Int) < 8 := by omega
      have hfz := ownk.2.frozenAt t
      have hcell : wr.cell? ⟨w.heap.size, t, none⟩ = some (.int .u8 (((fill8 n t).getD t 0 : Nat) : Int)) := by
        rw [ownk.2.cellAt t (by omega)]
        simp [bv, List.getElem?_eq_getElem (show t < (fill8 n t).length by rw [fill8_len n t (by omega)]; exact hlt)]
      obtain ⟨y, hy⟩ : ∃ y, y = (fill8 n t).getD t 0 := ⟨_, rfl⟩
      rw [← hy] at hcell
      clear hy
      have HOWN : Hid (Own wr w.heap.size (.slice (some ⟨w.heap.size, 0, none⟩) 8 8) 8 (fill8 n t)) := ownk
      have HBK : Hid (Below w.heap.size w wr) := hbk
      clear ownk hbk
      have hvv : ((n : Int) / 2 ^ (8 * (7 - t)) % 256) = (((be8 n).getD t 0 : Nat) : Int) := by
        rw [be8_get n t hlt]; simp
      have HVV : Hid (((n : Int) / 2 ^ (8 * (7 - t)) % 256) = (((be8 n).getD t 0 : Nat) : Int)) := hvv
      clear hvv
      go_wp2
      go_roundw
      case rel =>
        have st := HOWN.out.2.stored t (.int .u8 ((n : Int) / 2 ^ (8 * (7 - t)) % 256))
        refine ⟨t + 1, by omega, by go_num, ⟨by rw [fill8_len n (t + 1) (by omega)], ?_⟩, HBK.out.setCell (p := ⟨w.heap.size, t, none⟩) (Nat.le_refl _) _⟩
        have := st.1
        rw [HVV.out] at this ⊢
        have e : bv (fill8 n (t + 1)) = (bv (fill8 n t)).set t (.int .u8 (((be8 n).getD t 0 : Nat) : Int)) := by
          rw [← fill8_next n t hlt]
          simp [bv, List.map_set]
        rw [e]
        exact this
      case measure => simp [intOf]; omega
    · have hge : (8 : Int) ≤ (t : Int) := by omega
      obtain rfl : t = 8 := by omega
      have e : fill8 n 8 = be8 n := rfl
      rw [e] at ownk
      go_wp2
      go_ret2
      exact ⟨_, _, _, rfl, ownk, hbk⟩

theorem rising_at (z : Int) (n : Nat) (hz : z = (n : Int)) (hn : n < 9223372036854775808) (w : World) :
    Calls Try.prog 109 #[.int .i64 z] w fun e w' => ∃ a m c, e = .returned (.tuple #[.slice a m c, .int .i64 0]) ∧ Own w' w.heap.size (.slice a m c) m (be8 n) ∧ Below w.heap.size w w' := by
  subst hz; exact rising_any n hn w

set_option maxRecDepth 100000 in
set_option maxHeartbeats 400000 in
theorem falling_neg (z : Int) (hz : z < 0) (w : World) : Calls Try.prog 87 #[.int .i64 z] w fun e w' => e = .returned (.tuple #[.slice none 0 0, .int .i64 1]) ∧ w' = w := by
  go_enter Try.func87, Try.ntmps87
  go_wp2
  go_ret2
  exact ⟨rfl, rfl⟩
set_option maxRecDepth 100000 in
set_option maxHeartbeats 400000 in
theorem falling_any (n : Nat) (hn : n < 9223372036854775808) (w : World) :
    Calls Try.prog 87 #[.int .i64 (n : Int)] w fun e w' => ∃ a m c, e = .returned (.tuple #[.slice a m c, .int .i64 0]) ∧ Own w' w.heap.size (.slice a m c) m (be8 (9223372036854775807 - n)) ∧ Below w.heap.size w w' := by
  have h0 : (0 : Int) ≤ (n : Int) := by omega
  have h1 : (n : Int) ≤ 9223372036854775807 := by omega
  obtain ⟨q, hq⟩ : ∃ q, q = 9223372036854775807 - n := ⟨_, rfl⟩
  have HQ : Hid (((9223372036854775807 : Int) - (n : Int)) = (q : Int)) := by unfold Hid; omega
  have HQ2 : Hid (q < 9223372036854775808) := by unfold Hid; omega
  rw [← hq]
  clear hq
  go_enter Try.func87, Try.ntmps87
  go_wp2_with fail
  refine (rising_at _ q HQ.out HQ2.out _).mono ?_
  rintro e w1 ⟨a1, m1, c1, rfl, own1, hb1⟩
  go_wp2
  go_ret2
  exact ⟨a1, m1, c1, rfl, own1, hb1⟩

/-- What eight bytes say. -/
def num8 (l : List Nat) : Nat := l.foldl (fun v c => v * 256 + c) 0
theorem num8_lt (l : List Nat) (h : Bys l) : num8 l < 256 ^ l.length := by
  have key : ∀ (l : List Nat) (v k : Nat), Bys l → v < 256 ^ k → l.foldl (fun v c => v * 256 + c) v < 256 ^ (k + l.length) := by
    intro l
    induction l with
    | nil => intro v k _ hv; simpa using hv
    | cons c l ih =>
      intro v k hb hv
      have := ih (v * 256 + c) (k + 1) (fun x hx => hb x (by simp [hx])) (by have := hb c (by simp); rw [Nat.pow_succ]; omega)
      rw [show k + (c :: l).length = k + 1 + l.length by simp; omega]
      exact this
  have := key l 0 0 h (by simp)
  rw [Nat.zero_add] at this
  exact this
theorem num8_snoc (l : List Nat) (t : Nat) (h : t < l.length) : num8 (l.take (t + 1)) = num8 (l.take t) * 256 + l.getD t 0 := by
  rw [take_succ_getD l t h]
  simp [num8, List.foldl_append]
/-- What ReadRising answers. -/
def riseR (bs : List Nat) (k : Nat) : Nat × Nat × Nat :=
  if bs.length < k + 8 then (0, 0, 10)
  else if 9223372036854775807 < num8 ((bs.drop k).take 8) then (0, 0, 13)
  else (num8 ((bs.drop k).take 8), k + 8, 0)

set_option maxRecDepth 100000 in
set_option maxHeartbeats 400000 in
theorem readRising_out {v : Value} {bs : List Nat} {w : World} (hr : Rd w v bs) (at_ : Int) (h : at_ < 0 ∨ (bs.length : Int) < at_) :
    Calls Try.prog 122 #[v, .int .i64 at_] w fun e w' => e = .returned (.tuple #[.int .i64 0, .int .i64 0, .int .i64 1]) ∧ w' = w := by
  obtain ⟨a, n, cap, rfl⟩ := rd_slice hr
  obtain ⟨hn, hle, hm, hl48⟩ := rd_lens hr
  rw [← hn] at h
  clear hn hr
  have hd : decide (at_ < 0 ∨ (n : Int) < at_) = true := by simpa using h
  clear h
  go_enter Try.func122, Try.ntmps122
  go_wp2_with fail
  refine (outside_any at_ hl48).mono ?_
  rintro e w1 ⟨rfl, rfl⟩
  rw [hd]
  go_wp2
  go_ret3
  exact ⟨rfl, rfl⟩

set_option maxRecDepth 100000 in
set_option maxHeartbeats 1000000 in
theorem readRising_in {v : Value} {bs : List Nat} {w : World} (hr : Rd w v bs) (k : Nat) (hk : k ≤ bs.length) :
    Calls Try.prog 122 #[v, .int .i64 (k : Int)] w fun e w' => e = .returned (.tuple #[.int .i64 (((riseR bs k).1 : Nat) : Int), .int .i64 (((riseR bs k).2.1 : Nat) : Int), .int .i64 (((riseR bs k).2.2 : Nat) : Int)]) ∧ w' = w := by
  obtain ⟨a, n, cap, rfl⟩ := rd_slice hr
  obtain ⟨hn, hle, hm, hl48⟩ := rd_lens hr
  rw [← hn] at hk
  have HN : Hid (n = bs.length) := hn
  clear hn
  unfold maxLen at hm
  have hk2 : (k : Int) ≤ (n : Int) := by omega
  have hk0 : (0 : Int) ≤ (k : Int) := by omega
  have hd : decide ((k : Int) < 0 ∨ (n : Int) < (k : Int)) = false := by simp; omega
  by_cases h8 : n < k + 8
  · have hf : riseR bs k = (0, 0, 10) := by unfold riseR; rw [if_pos (by rw [← HN.out]; exact h8)]
    rw [hf]
    have e1 : (n : Int) - (k : Int) < 8 := by omega
    clear hf
    go_enter Try.func122, Try.ntmps122
    go_wp2_with fail
    refine (outside_any _ hl48).mono ?_
    rintro e w1 ⟨rfl, rfl⟩
    rw [hd]
    go_wp2
    go_ret3
    exact ⟨rfl, rfl⟩
  · have e1 : (8 : Int) ≤ (n : Int) - (k : Int) := by omega
    rcases rd_some hr with ⟨_, h0, _⟩ | ⟨b, off, rfl⟩
    · omega
    have hne : ¬ cap = k := by omega
    have rs := hr.sub k (k + 8) (by omega) (by omega) (off' := off + k) (n' := 8) (cap' := cap - k) rfl (by omega) rfl
    have eb : (bs.take (k + 8)).drop k = (bs.drop k).take 8 := by rw [List.drop_take]; congr 1; omega
    rw [eb] at rs
    obtain ⟨L, hL⟩ : ∃ L, L = (bs.drop k).take 8 := ⟨_, rfl⟩
    rw [← hL] at rs
    have hf : riseR bs k = if 9223372036854775807 < num8 L then (0, 0, 13) else (num8 L, k + 8, 0) := by
      unfold riseR; rw [if_neg (by rw [← HN.out]; exact h8), ← hL]
    have HL8 : Hid (L.length = 8) := by unfold Hid; rw [hL, List.length_take, List.length_drop, ← HN.out]; omega
    have HLB : Hid (Bys L) := rs.1
    obtain ⟨R, hR⟩ : ∃ R, R = riseR bs k := ⟨_, rfl⟩
    rw [← hR] at hf ⊢
    have HF : Hid (R = if 9223372036854775807 < num8 L then (0, 0, 13) else (num8 L, k + 8, 0)) := hf
    clear hR
    have hcells : ∀ t, t < 8 → w.cell? ⟨b, off + k + t, none⟩ = some (.int .u8 ((L.getD t 0 : Nat) : Int)) := fun t htt => (rd_cell rs t htt).1
    have HC : Hid (∀ t, t < 8 → w.cell? ⟨b, off + k + t, none⟩ = some (.int .u8 ((L.getD t 0 : Nat) : Int))) := hcells
    clear hf eb hL hcells rs hr
    go_enter Try.func122, Try.ntmps122
    go_wp2_with fail
    refine (outside_any _ hl48).mono ?_
    rintro e w1 ⟨rfl, rfl⟩
    rw [hd]
    go_wp2
    go_loop [7, 24] (fun x i => ∃ t q : Nat, t ≤ 8 ∧ i = .int .i64 (t : Int) ∧ x = .int .u64 (q : Int) ∧ q = num8 (L.take t) ∧ q < 256 ^ t) (fun _ i => 8 - (intOf i).toNat)
    case atStart => exact ⟨0, 0, by omega, rfl, rfl, rfl, by simp⟩
    case round =>
      obtain ⟨t, q, htl, rfl, rfl, hq, hql⟩ := hrel
      have HQ : Hid (q = num8 (L.take t)) := hq
      clear hq
      by_cases hlt : t < 8
      · have hlt2 : (t : Int) < 8 := by omega
        have hq7 : q < 72057594037927936 := Nat.lt_of_lt_of_le hql (by
          have : 256 ^ t ≤ 256 ^ 7 := Nat.pow_le_pow_right (by omega) (by omega)
          exact Nat.le_trans this (by decide))
        have hc := HC.out t hlt
        have hcl := HLB.out.get t
        obtain ⟨c, hcd⟩ : ∃ c, c = L.getD t 0 := ⟨_, rfl⟩
        rw [← hcd] at hc hcl
        have HCD : Hid (c = L.getD t 0) := hcd
        have HQL : Hid (q < 256 ^ t) := hql
        clear hcd hql
        have em : (c : Int) % 18446744073709551616 = (c : Int) := by omega
        have hor : bits .or .u64 ((q : Int) * 256) (c : Int) = ((q * 256 + c : Nat) : Int) := by
          have := u64_or_nat (q * 256) c (by omega) (by omega)
          rw [nat_join 8 (q * 256) c (by omega) (by omega)] at this
          rw [← this]
          simp
        obtain ⟨r, hr⟩ : ∃ r, r = q * 256 + c := ⟨_, rfl⟩
        rw [← hr] at hor
        have HR : Hid (r = q * 256 + c) := hr
        clear hr
        go_wp2
        go_round
        case rel =>
          refine ⟨t + 1, r, by omega, by go_num, by first | rfl | rw [hor], ?_, ?_⟩
          · rw [num8_snoc L t (by rw [HL8.out]; exact hlt), ← HQ.out, ← HCD.out]; exact HR.out
          · rw [HR.out, Nat.pow_succ]; have := HQL.out; omega
        case measure => simp [intOf]; omega
      · have hge : (8 : Int) ≤ (t : Int) := by omega
        obtain rfl : t = 8 := by omega
        have e8 : L.take 8 = L := List.take_of_length_le (by rw [HL8.out]; omega)
        have hqL := HQ.out
        rw [e8] at hqL
        have hq64 : q < 18446744073709551616 := hql
        have hRq := HF.out
        rw [← hqL] at hRq
        clear hql hqL e8
        by_cases hbig : 9223372036854775807 < q
        · rw [if_pos hbig] at hRq
          have HRQ : Hid (R = (0, 0, 13)) := hRq
          clear hRq
          have hb2 : (9223372036854775807 : Int) < (q : Int) := by omega
          clear hbig
          go_wp2
          go_ret3
          rw [HRQ.out]
          exact ⟨rfl, rfl⟩
        · rw [if_neg hbig] at hRq
          have HRQ : Hid (R = (q, k + 8, 0)) := hRq
          clear hRq
          have hb2 : (q : Int) ≤ 9223372036854775807 := by omega
          have hw : IntKind.i64.wrap (q : Int) = (q : Int) := by simp only [IntKind.wrap, IntKind.bits, IntKind.signed]; simp; omega
          have HE : Hid (((k : Int) + 8) = ((k + 8 : Nat) : Int)) := by unfold Hid; omega
          clear hbig
          go_wp2
          go_ret3
          rw [HRQ.out]
          refine ⟨?_, rfl⟩
          exact congrArg (fun z : Int => Ending.returned (Value.tuple #[Value.int .i64 (q : Int), Value.int .i64 z, Value.int .i64 0])) HE.out

theorem readRising_at {v : Value} {bs : List Nat} {w : World} (hr : Rd w v bs) (z : Int) (k : Nat) (hz : z = (k : Int)) (hk : k ≤ bs.length) {V P E : Nat} (h : riseR bs k = (V, P, E)) :
    Calls Try.prog 122 #[v, .int .i64 z] w fun e w' => e = .returned (.tuple #[.int .i64 (V : Int), .int .i64 (P : Int), .int .i64 (E : Int)]) ∧ w' = w := by
  subst hz
  have := readRising_in hr k hk
  rw [h] at this
  exact this

/-- What ReadFalling answers. -/
def fallR (bs : List Nat) (k : Nat) : Nat × Nat × Nat :=
  if (riseR bs k).2.2 ≠ 0 then (0, 0, (riseR bs k).2.2) else (9223372036854775807 - (riseR bs k).1, (riseR bs k).2.1, 0)
theorem riseR_lt (bs : List Nat) (k : Nat) : (riseR bs k).1 ≤ 9223372036854775807 ∧ (riseR bs k).2.2 ≤ 13 ∧ ((riseR bs k).2.2 ≠ 0 → (riseR bs k).2.1 = 0) ∧ (riseR bs k).2.1 ≤ k + 8 := by
  unfold riseR
  split
  · simp
  · split
    · simp
    · rename_i h1 h2
      refine ⟨by show num8 _ ≤ _; omega, by simp, by simp, by simp⟩

set_option maxRecDepth 100000 in
set_option maxHeartbeats 400000 in
theorem readFalling_out {v : Value} {bs : List Nat} {w : World} (hr : Rd w v bs) (at_ : Int) (h : at_ < 0 ∨ (bs.length : Int) < at_) :
    Calls Try.prog 112 #[v, .int .i64 at_] w fun e w' => e = .returned (.tuple #[.int .i64 0, .int .i64 0, .int .i64 1]) ∧ w' = w := by
  go_enter Try.func112, Try.ntmps112
  go_wp2_with fail
  refine (readRising_out hr at_ h).mono ?_
  rintro e w1 ⟨rfl, rfl⟩
  go_wp2
  go_ret3
  exact ⟨rfl, rfl⟩
set_option maxRecDepth 100000 in
set_option maxHeartbeats 400000 in
theorem readFalling_in {v : Value} {bs : List Nat} {w : World} (hr : Rd w v bs) (k : Nat) (hk : k ≤ bs.length) :
    Calls Try.prog 112 #[v, .int .i64 (k : Int)] w fun e w' => e = .returned (.tuple #[.int .i64 (((fallR bs k).1 : Nat) : Int), .int .i64 (((fallR bs k).2.1 : Nat) : Int), .int .i64 (((fallR bs k).2.2 : Nat) : Int)]) ∧ w' = w := by
  have hl := riseR_lt bs k
  obtain ⟨R, hR⟩ : ∃ R, R = riseR bs k := ⟨_, rfl⟩
  obtain ⟨V, P, E⟩ := R
  rw [← hR] at hl
  simp only at hl
  have HR : Hid (riseR bs k = (V, P, E)) := hR.symm
  have HK : Hid (k ≤ bs.length) := hk
  clear hk
  by_cases hE : E = 0
  · have hf : fallR bs k = (9223372036854775807 - V, P, 0) := by unfold fallR; rw [← hR]; simp [hE]
    rw [hf]
    subst hE
    have HV : Hid (((9223372036854775807 : Int) - (V : Int)) = ((9223372036854775807 - V : Nat) : Int)) := by unfold Hid; omega
    have hV : (V : Int) ≤ 9223372036854775807 := by omega
    clear hf hR hl
    go_enter Try.func112, Try.ntmps112
    go_wp2_with fail
    refine (readRising_at hr _ k rfl HK.out HR.out).mono ?_
    rintro e w1 ⟨rfl, rfl⟩
    go_wp2
    go_ret3
    refine ⟨?_, rfl⟩
    exact congrArg (fun z : Int => Ending.returned (Value.tuple #[Value.int .i64 z, Value.int .i64 (P : Int), Value.int .i64 0])) HV.out
  · have hf : fallR bs k = (0, 0, E) := by unfold fallR; rw [← hR]; simp [hE]
    rw [hf]
    have e1 : ((E : Int) != 0) = true := by simp; omega
    clear hf hR hl
    go_enter Try.func112, Try.ntmps112
    go_wp2_with fail
    refine (readRising_at hr _ k rfl HK.out HR.out).mono ?_
    rintro e w1 ⟨rfl, rfl⟩
    go_wp2
    go_ret3
    exact ⟨rfl, rfl⟩

end Go.Proofs.Ytjcpjpjccoeakaa
