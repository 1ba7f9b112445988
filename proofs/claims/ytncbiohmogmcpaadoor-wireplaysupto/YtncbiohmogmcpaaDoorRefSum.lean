import Derived.Test.YtncbiohmogmcpaaDoorCrc
import Derived.Test.YtncbiohmogmcpaaDoorRefNum2
namespace Go.Proofs.YtncbiohmogmcpaaDoor
open Go.RowKit
set_option linter.unusedVariables false

theorem T_pair_odd (q d : Nat) (h : ¬ q % 2 = d % 2) : (q / 2 ^^^ 2197175160) ^^^ (d / 2) = T (q ^^^ d) := by
  unfold T
  rw [xor_div2, xor_mod2]
  have hq : q % 2 = 0 ∨ q % 2 = 1 := by omega
  have hd : d % 2 = 0 ∨ d % 2 = 1 := by omega
  have e : (q % 2 ^^^ d % 2) = 1 := by
    rcases hq with hq | hq <;> rcases hd with hd | hd <;> simp [hq, hd] <;> omega
  rw [if_pos e, Nat.xor_assoc, Nat.xor_comm 2197175160, ← Nat.xor_assoc]
theorem T_pair_even (q d : Nat) (h : q % 2 = d % 2) : (q / 2) ^^^ (d / 2) = T (q ^^^ d) := by
  unfold T
  rw [xor_div2, xor_mod2, h, Nat.xor_self, if_neg (by omega), Nat.xor_zero]
theorem xor32h (q : Nat) (h : q < 4294967296) : bits .xor .u32 ((q : Int) / 2) 2197175160 = (((q / 2) ^^^ 2197175160 : Nat) : Int) := by
  have := xor32 (q / 2) 2197175160 (by omega) (by omega)
  rw [← this]
  congr 1
theorem Tn_last (t s : Nat) : T (Tn t s) = Tn (t + 1) s := by
  rw [Nat.add_comm, Tn_add]; rfl

set_option maxRecDepth 100000 in
set_option maxHeartbeats 2000000 in
theorem refSum_any {v : Value} {ps : List (List Nat)} {w : World} (hp : RdP w v ps) :
    Calls Tryd.prog 70 #[v] w fun e w' => e = .returned (.int .u32 ((sumL ps.flatten : Nat) : Int)) ∧ w' = w := by
  obtain ⟨hn, a, cap, rfl, hp⟩ := hp
  go_enter Tryd.func70, Tryd.ntmps70
  go_wp2
  go_loop [3, 4] (fun x i => ∃ k r : Nat, k ≤ ps.length ∧ i = .int .i64 (k : Int) ∧ x = .int .u32 (r : Int) ∧ r < 4294967296 ∧ r = crcL 4294967295 (ps.take k).flatten) (fun _ i => ps.length - (intOf i).toNat)
  case atStart => exact ⟨0, 4294967295, Nat.zero_le _, rfl, rfl, by omega, rfl⟩
  case round =>
    obtain ⟨k, r, hk, rfl, rfl, hr, hrr⟩ := hrel
    have HR : Hid (r = crcL 4294967295 (ps.take k).flatten) := hrr
    clear hrr
    by_cases hlt : k < ps.length
    · have hlt2 : (k : Int) < (ps.length : Int) := by omega
      rcases hp with rfl | ⟨b, off, rfl, hc⟩
      · simp at hlt
      obtain ⟨u, hu, hru⟩ := hc k hlt
      clear hc
      obtain ⟨hby, a2, cap2, hu2, hle, hm, hl48, hnone, hat⟩ := hru
      rw [hu2] at hu
      clear hu2
      obtain ⟨bs, hbs⟩ : ∃ bs, bs = ps.getD k [] := ⟨_, rfl⟩
      rw [← hbs] at hby hu hle hl48 hat
      have HB : Hid (bs = ps.getD k []) := hbs
      clear hbs
      go_wp2
      go_loop [3, 5] (fun x i => ∃ j q : Nat, j ≤ bs.length ∧ i = .int .i64 (j : Int) ∧ x = .int .u32 (q : Int) ∧ q < 4294967296 ∧ q = crcL r (bs.take j)) (fun _ i => bs.length - (intOf i).toNat)
      case atStart => exact ⟨0, r, Nat.zero_le _, rfl, rfl, hr, rfl⟩
      case round =>
        obtain ⟨j, q, hj, rfl, rfl, hq, hqq⟩ := hrel
        have HQ : Hid (q = crcL r (bs.take j)) := hqq
        clear hqq
        by_cases hjl : j < bs.length
        · have hjl2 : (j : Int) < (bs.length : Int) := by omega
          rcases hat with rfl | ⟨b2, off2, rfl, hc2⟩
          · simp at hjl
          have hcc := hc2 j hjl
          clear hc2
          have hcl := hby.get j
          obtain ⟨c, hcd⟩ : ∃ c, c = bs.getD j 0 := ⟨_, rfl⟩
          rw [← hcd] at hcc hcl
          have HC : Hid (c = bs.getD j 0) := hcd
          clear hcd
          go_wp2
          go_loop [3, 6, 7] (fun x y i => ∃ t s d : Nat, t ≤ 8 ∧ i = .int .i64 (t : Int) ∧ x = .int .u32 (s : Int) ∧ y = .int .u8 (d : Int) ∧ s < 4294967296 ∧ d = c / 2 ^ t ∧ s ^^^ d = Tn t (q ^^^ c)) (fun _ _ i => 8 - (intOf i).toNat)
          case atStart => exact ⟨0, q, c, by omega, rfl, rfl, rfl, hq, by simp, rfl⟩
          case round =>
            obtain ⟨t, s, d, ht8, rfl, rfl, rfl, hs, hd, hx⟩ := hrel
            have hd256 : d < 256 := by rw [hd]; exact Nat.lt_of_le_of_lt (Nat.div_le_self _ _) hcl
            have HD : Hid (d = c / 2 ^ t) := hd
            have HX : Hid (s ^^^ d = Tn t (q ^^^ c)) := hx
            clear hd hx
            by_cases hlt8 : t < 8
            · have hlt8' : (t : Int) < 8 := by omega
              have em : (d : Int) % 4294967296 = (d : Int) := by omega
              have HD2 : Hid (d / 2 = c / 2 ^ (t + 1)) := by unfold Hid; rw [HD.out, Nat.div_div_eq_div_mul, Nat.pow_succ]
              by_cases hpar : s % 2 = d % 2
              · have p1 : ((s : Int) % 2 == (d : Int) % 2) = true := by simp; omega
                have p2 : (s : Int) % 2 = (d : Int) % 2 := by omega
                have HX2 : Hid ((s / 2) ^^^ (d / 2) = Tn (t + 1) (q ^^^ c)) := by unfold Hid; rw [T_pair_even s d hpar, HX.out, Tn_last]
                clear hpar
                go_wp2
                go_round
                case rel => exact ⟨t + 1, s / 2, d / 2, by omega, by go_num, by go_num, by go_num, by omega, HD2.out, HX2.out⟩
                case measure => simp [intOf]; omega
              · have p1 : ((s : Int) % 2 == (d : Int) % 2) = false := by simp; omega
                have p2 : ¬ ((s : Int) % 2 = (d : Int) % 2) := by omega
                have HX2 : Hid ((s / 2 ^^^ 2197175160) ^^^ (d / 2) = Tn (t + 1) (q ^^^ c)) := by unfold Hid; rw [T_pair_odd s d hpar, HX.out, Tn_last]
                have HXL : Hid (s / 2 ^^^ 2197175160 < 4294967296) := Nat.xor_lt_two_pow (n := 32) (by omega) (by omega)
                have HXB : Hid (bits .xor .u32 ((s : Int) / 2) 2197175160 = (((s / 2) ^^^ 2197175160 : Nat) : Int)) := xor32h s hs
                clear hpar
                go_wp2
                go_round
                case rel => exact ⟨t + 1, s / 2 ^^^ 2197175160, d / 2, by omega, by go_num, by rw [HXB.out], by go_num, HXL.out, HD2.out, HX2.out⟩
                case measure => simp [intOf]; omega
            · have hge8 : (8 : Int) ≤ (t : Int) := by omega
              have ht : t = 8 := by omega
              have HF : Hid (s = crcB q c) := by
                unfold Hid
                have h1 := HX.out
                have h0 : d = 0 := by rw [HD.out, ht]; omega
                rw [h0, Nat.xor_zero, ht] at h1
                rw [crcB_eq]; exact h1
              clear ht
              go_wp2
              go_round
              case rel =>
                refine ⟨j + 1, s, by omega, by go_num, rfl, hs, ?_⟩
                rw [HF.out, take_succ_getD bs j hjl, crcL_snoc, ← HQ.out, ← HC.out]
              case measure => simp [intOf]; omega
        · have hjge : (bs.length : Int) ≤ (j : Int) := by omega
          go_wp2
          go_round
          case rel =>
            refine ⟨k + 1, q, by omega, by go_num, rfl, hq, ?_⟩
            rw [flat_snoc ps k hlt, crcL_append, ← HR.out, ← HB.out, HQ.out, List.take_of_length_le (by omega)]
          case measure => simp [intOf]; omega
    · have hkge : (ps.length : Int) ≤ (k : Int) := by omega
      have hk2 : ps.take k = ps := List.take_of_length_le (by omega)
      have hr2 := HR.out
      rw [hk2] at hr2
      have HR2 : Hid (r = crcL 4294967295 ps.flatten) := hr2
      have HE : Hid (IntKind.u32.wrap (4294967295 - (r : Int)) = ((4294967295 - r : Nat) : Int)) := by
        unfold Hid; simp only [IntKind.wrap, IntKind.bits, IntKind.signed]; simp; omega
      have HE2 : Hid ((4294967295 : Int) - (r : Int) = ((4294967295 - r : Nat) : Int)) := by unfold Hid; omega
      clear hr2 hk2
      go_wp2
      go_ret
      refine ⟨?_, rfl⟩
      unfold sumL
      rw [← HR2.out]
      first | exact congrArg (fun z : Int => Ending.returned (Value.int .u32 z)) HE2.out | exact congrArg (fun z : Int => Ending.returned (Value.int .u32 z)) HE.out

set_option maxRecDepth 100000 in
theorem refSame_any {a b : Value} {xs ys : List Nat} {w : World} (ha : Rd w a xs) (hb : Rd w b ys) :
    Calls Tryd.prog 75 #[a, b] w fun e w' => e = .returned (.bool (decide (xs = ys))) ∧ w' = w := by
  have h1 := conv_str ha
  have h2 := conv_str hb
  go_enter Tryd.func75, Tryd.ntmps75
  go_wp2
  go_ret
  exact ⟨by rw [← beq_str ha.1 hb.1]; rfl, rfl⟩

end Go.Proofs.YtncbiohmogmcpaaDoor
