import Derived.Test.YthpdlclgiggekaaFrame
namespace Go.Proofs.Ythpdlclgiggekaa
open Go.RowKit
set_option linter.unusedVariables false

/-- What ReadUint reads of the bytes from a place on: i bytes are read, v is what they say; f: how many may follow. The number, how many bytes, the error. -/
def ruint : Nat → List Nat → Nat → Nat → Nat × Nat × Nat
  | _, [], _, _ => (0, 0, 10)
  | 0, c :: _, i, v => if i = 9 ∧ 1 < c then (0, 0, 13) else if 128 ≤ c then (0, 0, 13) else if c = 0 ∧ 0 < i then (0, 0, 11) else (v + c % 128 * 128 ^ i, i + 1, 0)
  | f + 1, c :: r, i, v => if i = 9 ∧ 1 < c then (0, 0, 13) else if 128 ≤ c then ruint f r (i + 1) (v + c % 128 * 128 ^ i) else if c = 0 ∧ 0 < i then (0, 0, 11) else (v + c % 128 * 128 ^ i, i + 1, 0)
/-- The number, the place behind it, the error. -/
def uintR (bs : List Nat) (k : Nat) : Nat × Nat × Nat :=
  ((ruint 9 (bs.drop k) 0 0).1, if (ruint 9 (bs.drop k) 0 0).2.2 = 0 then k + (ruint 9 (bs.drop k) 0 0).2.1 else 0, (ruint 9 (bs.drop k) 0 0).2.2)

set_option maxRecDepth 100000 in
set_option maxHeartbeats 400000 in
theorem readUint_out {v : Value} {bs : List Nat} {w : World} (hr : Rd w v bs) (at_ : Int) (h : at_ < 0 ∨ (bs.length : Int) < at_) :
    Calls Try.prog 93 #[v, .int .i64 at_] w fun e w' => e = .returned (.tuple #[.int .u64 0, .int .i64 0, .int .i64 1]) ∧ w' = w := by
  obtain ⟨a, n, cap, rfl⟩ := rd_slice hr
  obtain ⟨hn, hle, hm, hl48⟩ := rd_lens hr
  rw [← hn] at h
  clear hn hr
  have hd : decide (at_ < 0 ∨ (n : Int) < at_) = true := by simpa using h
  clear h
  go_enter Try.func93, Try.ntmps93
  go_wp2_with fail
  refine (outside_any at_ hl48).mono ?_
  rintro e w1 ⟨rfl, rfl⟩
  rw [hd]
  go_wp2
  go_ret3
  exact ⟨rfl, rfl⟩

theorem and7f (c : Nat) (h : c < 256) : bits .and .u8 (c : Int) 127 = ((c % 128 : Nat) : Int) := by
  have := u8_and_nat c 127 h (by omega)
  rw [nat_mask7] at this
  exact this
theorem and80 (c : Nat) (h : c < 256) : bits .and .u8 (c : Int) 128 = ((c / 128 * 128 : Nat) : Int) := by
  have := u8_and_nat c 128 h (by omega)
  rw [show (128 : Nat) = 2 ^ 7 from rfl, nat_bit 7 c] at this
  have h2 : c / 2 ^ 7 % 2 * 2 ^ 7 = c / 128 * 128 := by omega
  rw [h2] at this
  exact this

theorem pow7 (i : Nat) : 2 ^ (7 * i) = 128 ^ i := by rw [Nat.pow_mul]
theorem shl_lt (c i : Nat) (hi : i ≤ 9) (h9 : i = 9 → c ≤ 1) : c % 128 * 128 ^ i < 18446744073709551616 := by
  by_cases h : i = 9
  · have := h9 h
    subst h
    have : c % 128 ≤ 1 := by omega
    calc c % 128 * 128 ^ 9 ≤ 1 * 128 ^ 9 := Nat.mul_le_mul_right _ this
      _ < 18446744073709551616 := by decide
  · have h1 : 128 ^ i ≤ 128 ^ 8 := Nat.pow_le_pow_right (by omega) (by omega)
    calc c % 128 * 128 ^ i ≤ 127 * 128 ^ 8 := Nat.mul_le_mul (by omega) h1
      _ < 18446744073709551616 := by decide
theorem orshift (q c i : Nat) (hi : i ≤ 9) (hq : q < 128 ^ i) (h9 : i = 9 → c ≤ 1) : bits .or .u64 (q : Int) (IntKind.u64.wrap ((c : Int) % 128 * 2 ^ (7 * i))) = ((q + c % 128 * 128 ^ i : Nat) : Int) := by
  have hx := shl_lt c i hi h9
  have e1 : ((c : Int) % 128 * 2 ^ (7 * i)) = ((c % 128 * 128 ^ i : Nat) : Int) := by
    rw [← pow7 i]; simp
  have hq64 : q < 18446744073709551616 := Nat.lt_of_lt_of_le hq (by
    have h1 : 128 ^ i ≤ 128 ^ 9 := Nat.pow_le_pow_right (by omega) hi
    exact Nat.le_trans h1 (by decide))
  rw [e1, IntKind.wrap_u64]
  have e2 : ((c % 128 * 128 ^ i : Nat) : Int) % 18446744073709551616 = ((c % 128 * 128 ^ i : Nat) : Int) := by omega
  rw [e2, u64_or_nat _ _ hq64 hx, Nat.or_comm, nat_join (7 * i) _ _ (by rw [pow7]; simp) (by rw [pow7]; exact hq), Nat.add_comm]
theorem next_lt (q c i : Nat) (hq : q < 128 ^ i) : q + c % 128 * 128 ^ i < 128 ^ (i + 1) := by
  have h1 : c % 128 * 128 ^ i ≤ 127 * 128 ^ i := Nat.mul_le_mul_right _ (by omega)
  rw [Nat.pow_succ]
  omega
theorem tup3 {X X' Y Y' Z : Int} (h1 : X = X') (h2 : Y = Y') : Ending.returned (Value.tuple #[Value.int .u64 X, Value.int .i64 Y, Value.int .i64 Z]) = Ending.returned (Value.tuple #[Value.int .u64 X', Value.int .i64 Y', Value.int .i64 Z]) := by rw [h1, h2]

set_option maxRecDepth 100000 in
set_option maxHeartbeats 1000000 in
theorem readUint_in {v : Value} {bs : List Nat} {w : World} (hr : Rd w v bs) (k : Nat) (hk : k ≤ bs.length) :
    Calls Try.prog 93 #[v, .int .i64 (k : Int)] w fun e w' => e = .returned (.tuple #[.int .u64 (((uintR bs k).1 : Nat) : Int), .int .i64 (((uintR bs k).2.1 : Nat) : Int), .int .i64 (((uintR bs k).2.2 : Nat) : Int)]) ∧ w' = w := by
  obtain ⟨a, n, cap, rfl⟩ := rd_slice hr
  obtain ⟨hn, hle, hm, hl48⟩ := rd_lens hr
  rw [← hn] at hk
  have HN : Hid (n = bs.length) := hn
  clear hn
  unfold maxLen at hm
  have hk2 : (k : Int) ≤ (n : Int) := by omega
  have hk0 : (0 : Int) ≤ (k : Int) := by omega
  have hd : decide ((k : Int) < 0 ∨ (n : Int) < (k : Int)) = false := by simp; omega
  go_enter Try.func93, Try.ntmps93
  go_wp2_with fail
  refine (outside_any _ hl48).mono ?_
  rintro e w1 ⟨rfl, rfl⟩
  rw [hd]
  go_wp2
  go_loop [7, 8] (fun x y => ∃ i q : Nat, i ≤ 9 ∧ k + i ≤ n ∧ x = .int .u64 (q : Int) ∧ y = .int .i64 (i : Int) ∧ q < 128 ^ i ∧ ruint 9 (bs.drop k) 0 0 = ruint (9 - i) (bs.drop (k + i)) i q) (fun _ y => 10 - (intOf y).toNat)
  case atStart => exact ⟨0, 0, by omega, by omega, rfl, rfl, by simp, rfl⟩
  case round =>
    obtain ⟨i, q, hi, hki, rfl, rfl, hq, hru⟩ := hrel
    have HQ : Hid (q < 128 ^ i) := hq
    have HR : Hid (ruint 9 (bs.drop k) 0 0 = ruint (9 - i) (bs.drop (k + i)) i q) := hru
    clear hq hru
    by_cases hend : k + i = n
    · have e1 : ((k : Int) + (i : Int) == (n : Int)) = true := by simp; omega
      have hdr : bs.drop (k + i) = [] := by rw [hend, HN.out]; simp
      have HU : Hid (uintR bs k = (0, 0, 10)) := by
        unfold Hid uintR; rw [HR.out, hdr]; cases (9 - i) <;> rfl
      have hend2 : ¬ (k : Int) + (i : Int) < (n : Int) := by omega
      clear hend hdr
      go_wp2
      go_ret3
      rw [HU.out]
      exact ⟨rfl, rfl⟩
    · have e1 : ((k : Int) + (i : Int) == (n : Int)) = false := by simp; omega
      rcases rd_some hr with ⟨_, h0, _⟩ | ⟨b, off, rfl⟩
      · omega
      obtain ⟨hc, hcl⟩ := rd_cell hr (k + i) (by omega)
      have hdr : bs.drop (k + i) = bs.getD (k + i) 0 :: bs.drop (k + i + 1) := by
        rw [List.drop_eq_getElem_cons (by rw [← HN.out]; omega)]
        simp [List.getD, List.getElem?_eq_getElem (show k + i < bs.length by rw [← HN.out]; omega)]
      obtain ⟨c, hcd⟩ : ∃ c, c = bs.getD (k + i) 0 := ⟨_, rfl⟩
      rw [← hcd] at hc hcl hdr
      have HD : Hid (bs.drop (k + i) = c :: bs.drop (k + i + 1)) := hdr
      clear hdr hcd
      have hkn : (k : Int) + (i : Int) < (n : Int) := by omega
      have a7 := and7f c hcl
      have a8 := and80 c hcl
      by_cases hA : i = 9 ∧ 1 < c
      · have HU : Hid (uintR bs k = (0, 0, 13)) := by
          unfold Hid uintR; rw [HR.out, HD.out, hA.1]
          simp [ruint, hA.2]
        have e2 : ((i : Int) == 9) = true := by simp; omega
        have e3 : (1 : Int) < (c : Int) := by omega
        clear hA a7 a8
        go_wp2
        go_ret3
        rw [HU.out]
        exact ⟨rfl, rfl⟩
      · have hA9 : i = 9 → c ≤ 1 := fun h => by
          by_cases hc1 : 1 < c
          · exact absurd ⟨h, hc1⟩ hA
          · omega
        have hv := orshift q c i hi HQ.out hA9
        have hnx := next_lt q c i HQ.out
        obtain ⟨V, hV⟩ : ∃ V, V = q + c % 128 * 128 ^ i := ⟨_, rfl⟩
        rw [← hV] at hv hnx
        have HV : Hid (V = q + c % 128 * 128 ^ i) := hV
        have HX : Hid (V < 128 ^ (i + 1)) := hnx
        have hem : (c : Int) % 128 % 18446744073709551616 = (c : Int) % 128 := by omega
        clear hV hnx
        by_cases hB : 128 ≤ c
        · have hi8 : i ≤ 8 := by
            by_cases h : i = 9
            · have := hA9 h; omega
            · omega
          have e2 : ((i : Int) == 9) = false := by simp; omega
          have e4 : ((c : Int) / 128 * 128 != 0) = true := by simp; omega
          have HN2 : Hid (ruint 9 (bs.drop k) 0 0 = ruint (9 - (i + 1)) (bs.drop (k + (i + 1))) (i + 1) V) := by
            unfold Hid
            rw [HR.out, HD.out, show 9 - i = (9 - (i + 1)) + 1 by omega]
            conv => lhs; unfold ruint
            rw [if_neg hA, if_pos hB, ← HV.out]
            rfl
          clear hA hA9
          go_wp2
          go_round
          case rel => exact ⟨i + 1, V, by omega, by omega, by first | rfl | (rw [hv]), by go_num, HX.out, HN2.out⟩
          case measure => simp [intOf]; omega
        · have e4 : ((c : Int) / 128 * 128 != 0) = false := by simp; omega
          by_cases hC : c = 0 ∧ 0 < i
          · have HU : Hid (uintR bs k = (0, 0, 11)) := by
              unfold Hid uintR
              have : ruint (9 - i) (c :: bs.drop (k + i + 1)) i q = (0, 0, 11) := by
                cases h9 : 9 - i with
                | zero => unfold ruint; rw [if_neg hA, if_neg hB, if_pos hC]
                | succ f => unfold ruint; rw [if_neg hA, if_neg hB, if_pos hC]
              rw [HR.out, HD.out, this]
              rfl
            have e5 : ((c : Int) == 0) = true := by simp; omega
            have e6 : (0 : Int) < (i : Int) := by omega
            have e7 : (c : Int) ≤ 1 := by omega
            clear hA hA9 hC
            go_wp2
            all_goals go_ret3
            all_goals rw [HU.out]
            all_goals exact ⟨rfl, rfl⟩
          · have HU : Hid (uintR bs k = (V, k + i + 1, 0)) := by
              unfold Hid uintR
              have : ruint (9 - i) (c :: bs.drop (k + i + 1)) i q = (V, i + 1, 0) := by
                cases h9 : 9 - i with
                | zero => unfold ruint; rw [if_neg hA, if_neg hB, if_neg hC, HV.out]
                | succ f => unfold ruint; rw [if_neg hA, if_neg hB, if_neg hC, HV.out]
              rw [HR.out, HD.out, this]
              rfl
            have e8 : ((k : Int) + (i : Int) + 1) = ((k + i + 1 : Nat) : Int) := by omega
            have HE8 : Hid (((k : Int) + (i : Int) + 1) = ((k + i + 1 : Nat) : Int)) := e8
            clear hA e8
            by_cases h9 : i = 9
            · have := hA9 h9
              have e2 : ((i : Int) == 9) = true := by simp; omega
              have e7 : (c : Int) ≤ 1 := by omega
              have e5 : ((c : Int) == 0) = false := by simp; omega
              have H9 : Hid (i = 9) := h9
              clear hA9 hC h9
              go_wp2
              all_goals go_ret3
              all_goals rw [HU.out]
              all_goals exact ⟨tup3 (by first | rfl | exact hv) HE8.out, rfl⟩
            · have e2 : ((i : Int) == 9) = false := by simp; omega
              clear hA9
              by_cases hc0 : c = 0
              · have e5 : ((c : Int) == 0) = true := by simp; omega
                have e6 : (i : Int) ≤ 0 := by omega
                have H0 : Hid (c = 0) := hc0
                clear hC hc0
                go_wp2
                all_goals go_ret3
                all_goals rw [HU.out]
                all_goals exact ⟨tup3 (by first | rfl | exact hv) HE8.out, rfl⟩
              · have e5 : ((c : Int) == 0) = false := by simp; omega
                clear hC
                go_wp2
                all_goals go_ret3
                all_goals rw [HU.out]
                all_goals exact ⟨tup3 (by first | rfl | exact hv) HE8.out, rfl⟩

end Go.Proofs.Ythpdlclgiggekaa
