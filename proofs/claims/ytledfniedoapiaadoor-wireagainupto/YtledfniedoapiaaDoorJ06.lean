import Derived.Test.YtledfniedoapiaaDoorJ05
import Derived.Test.YtledfniedoapiaaDoorJ00
import Derived.Deep.RegionHeld3
namespace Go.Proofs.YtledfniedoapiaaDoor
open Go.RowKit
set_option linter.unusedVariables false

theorem refReadUint_at {v : Value} {bs : List Nat} {w : World} (hr : Rd w v bs) (z : Int) (k : Nat) (hz : z = (k : Int)) (hk : k ≤ bs.length) {V P E : Nat} (h : uintR bs k = (V, P, E)) :
    Calls Tryd.prog 56 #[v, .int .i64 z] w fun e w' => e = .returned (.tuple #[.int .u64 (V : Int), .int .i64 (P : Int), .int .i64 (E : Int)]) ∧ w' = w := by
  subst hz
  have := refReadUint_in hr k hk
  rw [h] at this
  exact this
theorem refPart_at {b off n cap : Nat} {bs : List Nat} {w : World} (hr : Rd w (.slice (some ⟨b, off, none⟩) n cap) bs) (x y : Int) (i j : Nat) (hx : x = (i : Int)) (hy : y = (j : Int)) (hij : i ≤ j) (hj : j ≤ n) (h47 : n ≤ 140737488355328) :
    Calls Tryd.prog 63 #[.slice (some ⟨b, off, none⟩) n cap, .int .i64 x, .int .i64 y] w fun e w' => ∃ a m c, e = .returned (.slice a m c) ∧ Own w' w.heap.size (.slice a m c) m ((bs.take j).drop i) ∧ Below w.heap.size w w' := by
  subst hx hy
  exact refPart_any hr i j hij hj h47

set_option maxRecDepth 100000 in
set_option maxHeartbeats 1000000 in
theorem refReadBytes_in {v : Value} {bs : List Nat} {w : World} (hr : Rd w v bs) (k most : Nat) (hk : k ≤ bs.length) (hmost : most < 9223372036854775808) (h47 : bs.length ≤ 140737488355328) :
    Calls Tryd.prog 39 #[v, .int .i64 (k : Int), .int .i64 (most : Int)] w fun e w' => ∃ a m c, e = .returned (.tuple #[.slice a m c, .int .i64 (((bytesR bs k most).2.1 : Nat) : Int), .int .i64 (((bytesR bs k most).2.2 : Nat) : Int)]) ∧ Own w' w.heap.size (.slice a m c) m (bytesR bs k most).1 ∧ Below w.heap.size w w' := by
  obtain ⟨a, n, cap, rfl⟩ := rd_slice hr
  obtain ⟨hn, hle, hm, hl48⟩ := rd_lens hr
  have hk' := hk
  rw [← hn] at hk h47
  have HN : Hid (n = bs.length) := hn
  clear hn
  unfold maxLen at hm
  have hk2 : (k : Int) ≤ (n : Int) := by omega
  have hk0 : (0 : Int) ≤ (k : Int) := by omega
  have hd : decide ((k : Int) < 0 ∨ (n : Int) < (k : Int)) = false := by simp; omega
  have hm0 : (0 : Int) ≤ (most : Int) := by omega
  have hemm : (most : Int) % 18446744073709551616 = (most : Int) := by omega
  obtain ⟨R, hR⟩ : ∃ R, R = uintR bs k := ⟨_, rfl⟩
  obtain ⟨V, P, E⟩ := R
  have hEb : E ≤ 13 := by
    have := ruint_e 9 (bs.drop k) 0 0
    have h2 : E = (uintR bs k).2.2 := by rw [← hR]
    rw [h2]
    exact this
  have HK : Hid (k ≤ bs.length) := hk'
  have HRR : Hid (uintR bs k = (V, P, E)) := hR.symm
  clear hk'
  by_cases hE : E = 0
  · subst hE
    obtain ⟨hkp, hpn, hV⟩ := uintR_ok hR.symm HK.out
    rw [← HN.out] at hpn
    have hsub : ((n : Int) - (P : Int)) % 18446744073709551616 = (n : Int) - (P : Int) := by omega
    by_cases hbig : most < V
    · have hf : bytesR bs k most = ([], 0, 13) := by unfold bytesR; rw [← hR]; simp [hbig]
      rw [hf]
      have e1 : (most : Int) < (V : Int) := by omega
      clear hf hR
      go_enter Tryd.func39, Tryd.ntmps39
      go_wp2_with fail
      refine (refOutside_any _ hl48).mono ?_
      rintro e w1 ⟨rfl, rfl⟩
      rw [hd]
      go_wp2_with fail
      refine (refReadUint_at hr _ k rfl HK.out HRR.out).mono ?_
      rintro e w2 ⟨rfl, rfl⟩
      go_wp2
      go_ret3
      exact ⟨_, _, _, rfl, ⟨rfl, World.ownsRow_nil _ _ _ _⟩, Below.refl _ _⟩
    · have e1 : (V : Int) ≤ (most : Int) := by omega
      by_cases htorn : n < P + V
      · have hf : bytesR bs k most = ([], 0, 10) := by unfold bytesR; rw [← hR, ← HN.out]; simp [hbig, htorn]
        rw [hf]
        have e2 : (n : Int) - (P : Int) < (V : Int) := by omega
        clear hf hR
        go_enter Tryd.func39, Tryd.ntmps39
        go_wp2_with fail
        refine (refOutside_any _ hl48).mono ?_
        rintro e w1 ⟨rfl, rfl⟩
        rw [hd]
        go_wp2_with fail
        refine (refReadUint_at hr _ k rfl HK.out HRR.out).mono ?_
        rintro e w2 ⟨rfl, rfl⟩
        go_wp2
        go_ret3
        exact ⟨_, _, _, rfl, ⟨rfl, World.ownsRow_nil _ _ _ _⟩, Below.refl _ _⟩
      · have hf : bytesR bs k most = ((bs.drop P).take V, P + V, 0) := by unfold bytesR; rw [← hR, ← HN.out]; simp [hbig, htorn]
        rw [hf]
        have e2 : (V : Int) ≤ (n : Int) - (P : Int) := by omega
        have hVm : IntKind.i64.wrap (V : Int) = (V : Int) := by simp only [IntKind.wrap, IntKind.bits, IntKind.signed]; simp; omega
        clear hf hR
        rcases rd_some hr with ⟨h0, _⟩ | ⟨b, off, rfl⟩
        · omega
        have eb : (bs.take (P + V)).drop P = (bs.drop P).take V := by rw [List.drop_take]; congr 1; omega
        have HEB : Hid ((bs.take (P + V)).drop P = (bs.drop P).take V) := eb
        have HPV : Hid (P + V ≤ n) := by unfold Hid; omega
        have HS : Hid ((P : Int) + (V : Int) = ((P + V : Nat) : Int)) := by unfold Hid; omega
        clear eb htorn hbig
        go_enter Tryd.func39, Tryd.ntmps39
        go_wp2_with fail
        refine (refOutside_any _ hl48).mono ?_
        rintro e w1 ⟨rfl, rfl⟩
        rw [hd]
        go_wp2_with fail
        refine (refReadUint_at hr _ k rfl HK.out HRR.out).mono ?_
        rintro e w2 ⟨rfl, rfl⟩
        go_wp2_with fail
        refine (refPart_at hr _ _ P (P + V) rfl HS.out (by omega) HPV.out h47).mono ?_
        rintro e w5 ⟨a5, m5, c5, rfl, own5, hb5⟩
        rw [HEB.out] at own5
        go_wp2
        go_ret3
        refine ⟨a5, m5, c5, ?_, own5, hb5⟩
        exact congrArg (fun z : Int => Ending.returned (Value.tuple #[Value.slice a5 m5 c5, Value.int .i64 z, Value.int .i64 0])) HS.out
  · have hf : bytesR bs k most = ([], 0, E) := by unfold bytesR; rw [← hR]; simp [hE]
    rw [hf]
    have e1 : ((E : Int) != 0) = true := by simp; omega
    clear hf hR
    go_enter Tryd.func39, Tryd.ntmps39
    go_wp2_with fail
    refine (refOutside_any _ hl48).mono ?_
    rintro e w1 ⟨rfl, rfl⟩
    rw [hd]
    go_wp2_with fail
    refine (refReadUint_at hr _ k rfl HK.out HRR.out).mono ?_
    rintro e w2 ⟨rfl, rfl⟩
    go_wp2
    go_ret3
    exact ⟨_, _, _, rfl, ⟨rfl, World.ownsRow_nil _ _ _ _⟩, Below.refl _ _⟩

theorem own_one' (w : World) (B x : Nat) (z : Int) (hz : z = (x : Int)) (hB : B ≤ w.heap.size) : Own (w.alloc (.cells #[.int .u8 z] 5)) B (.slice (some ⟨w.heap.size, 0, none⟩) 1 1) 1 [x] := by
  subst hz; exact own_one w B x hB
theorem be8_step (V t : Nat) (h : t < 8) : (be8 V).drop (8 - (t + 1)) = [V / 256 ^ t % 256] ++ (be8 V).drop (8 - t) := by
  have hl : (be8 V).length = 8 := rfl
  rw [drop_cons' (be8 V) (8 - (t + 1)) (by rw [hl]; omega), be8_get V _ (by omega), show 8 - (t + 1) + 1 = 8 - t by omega, show 7 - (8 - (t + 1)) = t by omega, Nat.pow_mul]
  rfl

set_option maxRecDepth 100000 in
set_option maxHeartbeats 1000000 in
theorem eight_any (V : Nat) (hV : V < 18446744073709551616) (w : World) :
    Calls Tryd.prog 62 #[.int .u64 (V : Int)] w fun e w' => ∃ a m c, e = .returned (.slice a m c) ∧ Own w' w.heap.size (.slice a m c) m (be8 V) ∧ Below w.heap.size w w' := by
  have HB8 : Hid (∀ t, ((be8 V).drop (8 - t)).length ≤ t) := fun t => by rw [List.length_drop]; have : (be8 V).length = 8 := rfl; omega
  have HBY : Hid (∀ t, Bys ((be8 V).drop (8 - t))) := fun t x hx => be8_bys V x (List.mem_of_mem_drop hx)
  go_enter Tryd.func62, Tryd.ntmps62
  go_wp2
  go_loopw [0, 3, 4] (fun x s i wr => ∃ (t u : Nat) (a : Option Addr) (m c : Nat), t ≤ 8 ∧ x = .int .u64 (u : Int) ∧ u = V / 256 ^ t ∧ i = .int .i64 (t : Int) ∧ s = .slice a m c ∧ Own wr w.heap.size (.slice a m c) m ((be8 V).drop (8 - t)) ∧ Below w.heap.size w wr) (fun _ _ i _ => 8 - (intOf i).toNat)
  case atStart => exact ⟨0, V, _, _, _, by omega, rfl, by simp, rfl, rfl, ⟨rfl, World.ownsRow_nil _ _ _ _⟩, Below.refl _ _⟩
  case round =>
    obtain ⟨t, u, a1, m1, c1, ht, rfl, hu, rfl, rfl, own1, hb⟩ := hrel
    have HU : Hid (u = V / 256 ^ t) := hu
    have hu64 : u < 18446744073709551616 := by rw [hu]; exact Nat.lt_of_le_of_lt (Nat.div_le_self _ _) hV
    clear hu
    have hbs := hb.size
    have hm1 : m1 ≤ t := by rw [own1.1]; exact HB8.out t
    by_cases hlt : t < 8
    · have hlt2 : (t : Int) < 8 := by omega
      have r1 := own1.rd (HBY.out t) (by omega)
      have HST : Hid ((be8 V).drop (8 - (t + 1)) = [u % 256] ++ (be8 V).drop (8 - t)) := by unfold Hid; rw [be8_step V t hlt, HU.out]
      go_wp2_with (at_builtin; refine wpList_append_at rfl (.tmp 12) _ rfl w.heap.size (some ⟨wr.heap.size, 0, none⟩) 1 1 [u % 256] rfl (own_one' wr w.heap.size (u % 256) _ (by first | rfl | omega | (simp; done) | (simp; omega)) hbs) a1 m1 c1 _ rfl (r1.later ((Below.refl _ _).alloc (Nat.le_refl _) _)) (by omega) (by simp; omega) ?_; intro a3 m3 c3 w3 own3 hb3)
      go_roundw
      case rel => exact ⟨t + 1, u / 256, a3, m3, c3, by omega, by go_num, by rw [HU.out, Nat.div_div_eq_div_mul, Nat.pow_succ], by go_num, rfl, by rw [HST.out]; exact own3, hb.trans (((Below.refl w.heap.size wr).alloc hbs _).trans hb3)⟩
      case measure => simp [intOf]; omega
    · have hge : (8 : Int) ≤ (t : Int) := by omega
      have ht8 : t = 8 := by omega
      have HT : Hid (t = 8) := ht8
      clear ht8
      go_wp2
      go_ret
      refine ⟨a1, m1, c1, rfl, ?_, hb⟩
      have h := own1
      rw [HT.out] at h
      simpa using h

set_option maxRecDepth 100000 in
theorem refRising_neg (z : Int) (hz : z < 0) (w : World) : Calls Tryd.prog 33 #[.int .i64 z] w fun e w' => e = .returned (.tuple #[.slice none 0 0, .int .i64 1]) ∧ w' = w := by
  go_enter Tryd.func33, Tryd.ntmps33
  go_wp2
  go_ret2
  exact ⟨rfl, rfl⟩
set_option maxRecDepth 100000 in
theorem refFalling_neg (z : Int) (hz : z < 0) (w : World) : Calls Tryd.prog 34 #[.int .i64 z] w fun e w' => e = .returned (.tuple #[.slice none 0 0, .int .i64 1]) ∧ w' = w := by
  go_enter Tryd.func34, Tryd.ntmps34
  go_wp2
  go_ret2
  exact ⟨rfl, rfl⟩
set_option maxRecDepth 100000 in
set_option maxHeartbeats 400000 in
theorem refRising_any (n : Nat) (hn : n < 9223372036854775808) (w : World) :
    Calls Tryd.prog 33 #[.int .i64 (n : Int)] w fun e w' => ∃ a m c, e = .returned (.tuple #[.slice a m c, .int .i64 0]) ∧ Own w' w.heap.size (.slice a m c) m (be8 n) ∧ Below w.heap.size w w' := by
  have h0 : (0 : Int) ≤ (n : Int) := by omega
  have hem : (n : Int) % 18446744073709551616 = (n : Int) := by omega
  go_enter Tryd.func33, Tryd.ntmps33
  go_wp2_with fail
  refine (eight_any n (by omega) _).mono ?_
  rintro e w1 ⟨a1, m1, c1, rfl, own1, hb1⟩
  go_wp2
  go_ret2
  exact ⟨a1, m1, c1, rfl, own1, hb1⟩
theorem refRising_at (z : Int) (n : Nat) (hz : z = (n : Int)) (hn : n < 9223372036854775808) (w : World) :
    Calls Tryd.prog 33 #[.int .i64 z] w fun e w' => ∃ a m c, e = .returned (.tuple #[.slice a m c, .int .i64 0]) ∧ Own w' w.heap.size (.slice a m c) m (be8 n) ∧ Below w.heap.size w w' := by
  subst hz; exact refRising_any n hn w
set_option maxRecDepth 100000 in
set_option maxHeartbeats 400000 in
theorem refFalling_any (n : Nat) (hn : n < 9223372036854775808) (w : World) :
    Calls Tryd.prog 34 #[.int .i64 (n : Int)] w fun e w' => ∃ a m c, e = .returned (.tuple #[.slice a m c, .int .i64 0]) ∧ Own w' w.heap.size (.slice a m c) m (be8 (9223372036854775807 - n)) ∧ Below w.heap.size w w' := by
  have h0 : (0 : Int) ≤ (n : Int) := by omega
  have h1 : (n : Int) ≤ 9223372036854775807 := by omega
  have HS : Hid ((9223372036854775807 : Int) - (n : Int) = ((9223372036854775807 - n : Nat) : Int)) := by unfold Hid; omega
  go_enter Tryd.func34, Tryd.ntmps34
  go_wp2_with fail
  refine (refRising_at _ (9223372036854775807 - n) HS.out (by omega) _).mono ?_
  rintro e w1 ⟨a1, m1, c1, rfl, own1, hb1⟩
  go_wp2
  go_ret2
  exact ⟨a1, m1, c1, rfl, own1, hb1⟩

theorem wrapN (v c : Nat) (h : v * 256 + c < 18446744073709551616) : IntKind.u64.wrap (IntKind.u64.wrap (256 * (v : Int)) + (c : Int)) = ((v * 256 + c : Nat) : Int) := by
  rw [IntKind.wrap_u64, IntKind.wrap_u64]; omega

set_option maxRecDepth 100000 in
set_option maxHeartbeats 1000000 in
theorem number_any {b off n cap : Nat} {bs : List Nat} {w : World} (hr : Rd w (.slice (some ⟨b, off, none⟩) n cap) bs) (k q : Nat) (hq : q ≤ 8) (hk : k + q ≤ n) :
    Calls Tryd.prog 67 #[.slice (some ⟨b, off, none⟩) n cap, .int .i64 (k : Int), .int .i64 (q : Int)] w fun e w' => e = .returned (.int .u64 ((num8 ((bs.drop k).take q) : Nat) : Int)) ∧ w' = w := by
  obtain ⟨hn, hle, hm, hl48⟩ := rd_lens hr
  have HN : Hid (n = bs.length) := hn
  clear hn
  obtain ⟨L, hL⟩ : ∃ L, L = (bs.drop k).take q := ⟨_, rfl⟩
  rw [← hL]
  have HLL : Hid (L.length = q) := by unfold Hid; rw [hL, List.length_take, List.length_drop, ← HN.out]; omega
  have HLB : Hid (Bys L) := by unfold Hid; rw [hL]; exact fun x hx => hr.1 x (List.mem_of_mem_drop (List.mem_of_mem_take hx))
  have HLG : Hid (∀ t, t < q → L.getD t 0 = bs.getD (k + t) 0) := fun t ht => by
    rw [hL]; simp [List.getElem?_take_of_lt ht]
  clear hL
  go_enter Tryd.func67, Tryd.ntmps67
  go_wp2
  go_loop [7, 8] (fun x y => ∃ t v : Nat, t ≤ q ∧ x = .int .u64 (v : Int) ∧ v = num8 (L.take t) ∧ y = .int .i64 (t : Int)) (fun _ y => q - (intOf y).toNat)
  case atStart => exact ⟨0, 0, by omega, rfl, rfl, rfl⟩
  case round =>
    obtain ⟨t, v, ht, rfl, hv, rfl⟩ := hrel
    have HV : Hid (v = num8 (L.take t)) := hv
    clear hv
    by_cases hlt : t < q
    · have hlt2 : (t : Int) < (q : Int) := by omega
      obtain ⟨hc, hcl⟩ := rd_cell hr (k + t) (by omega)
      rw [← HLG.out t hlt] at hc hcl
      obtain ⟨c, hcd⟩ : ∃ c, c = L.getD t 0 := ⟨_, rfl⟩
      have HS : Hid (num8 (L.take (t + 1)) = v * 256 + c) := by unfold Hid; rw [num8_snoc L t (by rw [HLL.out]; exact hlt), ← HV.out, hcd]
      rw [← hcd] at hc hcl
      have hkt : (k : Int) + (t : Int) < (n : Int) := by omega
      have hkt0 : (0 : Int) ≤ (k : Int) + (t : Int) := by omega
      have hlt64 : v * 256 + c < 18446744073709551616 := by
        rw [← HS.out]
        have h1 := num8_lt (L.take (t + 1)) (fun x hx => HLB.out x (List.mem_of_mem_take hx))
        have h2 : (L.take (t + 1)).length ≤ 8 := by rw [List.length_take]; omega
        have h3 : 256 ^ (L.take (t + 1)).length ≤ 256 ^ 8 := Nat.pow_le_pow_right (by omega) h2
        have h4 : (256 : Nat) ^ 8 = 18446744073709551616 := by decide
        omega
      have HWN : Hid (IntKind.u64.wrap (IntKind.u64.wrap (256 * (v : Int)) + (c : Int)) = ((v * 256 + c : Nat) : Int)) := wrapN v c hlt64
      clear hcd hlt64
      go_wp2
      go_round
      case rel => exact ⟨t + 1, v * 256 + c, by omega, by rw [HWN.out], by rw [HS.out], by go_num⟩
      case measure => simp [intOf]; omega
    · have hge : (q : Int) ≤ (t : Int) := by omega
      have HT : Hid (v = num8 L) := by
        unfold Hid
        rw [HV.out, List.take_of_length_le (by rw [HLL.out]; omega)]
      go_wp2
      go_ret
      exact ⟨congrArg (fun z : Nat => Ending.returned (Value.int .u64 (z : Int))) HT.out, rfl⟩

set_option maxRecDepth 100000 in
theorem refReadRising_out {v : Value} {bs : List Nat} {w : World} (hr : Rd w v bs) (at_ : Int) (h : at_ < 0 ∨ (bs.length : Int) < at_) :
    Calls Tryd.prog 58 #[v, .int .i64 at_] w fun e w' => e = .returned (.tuple #[.int .i64 0, .int .i64 0, .int .i64 1]) ∧ w' = w := by
  obtain ⟨a, n, cap, rfl⟩ := rd_slice hr
  obtain ⟨hn, hle, hm, hl48⟩ := rd_lens hr
  rw [← hn] at h
  clear hn hr
  have hd : decide (at_ < 0 ∨ (n : Int) < at_) = true := by simpa using h
  clear h
  go_enter Tryd.func58, Tryd.ntmps58
  go_wp2_with fail
  refine (refOutside_any at_ hl48).mono ?_
  rintro e w1 ⟨rfl, rfl⟩
  rw [hd]
  go_wp2
  go_ret3
  exact ⟨rfl, rfl⟩

theorem tup3i {X X' Y Y' Z : Int} (h1 : X = X') (h2 : Y = Y') : Ending.returned (Value.tuple #[Value.int .i64 X, Value.int .i64 Y, Value.int .i64 Z]) = Ending.returned (Value.tuple #[Value.int .i64 X', Value.int .i64 Y', Value.int .i64 Z]) := by rw [h1, h2]

set_option maxRecDepth 100000 in
set_option maxHeartbeats 1000000 in
theorem refReadRising_in {v : Value} {bs : List Nat} {w : World} (hr : Rd w v bs) (k : Nat) (hk : k ≤ bs.length) :
    Calls Tryd.prog 58 #[v, .int .i64 (k : Int)] w fun e w' => e = .returned (.tuple #[.int .i64 (((riseR bs k).1 : Nat) : Int), .int .i64 (((riseR bs k).2.1 : Nat) : Int), .int .i64 (((riseR bs k).2.2 : Nat) : Int)]) ∧ w' = w := by
  obtain ⟨a, n, cap, rfl⟩ := rd_slice hr
  obtain ⟨hn, hle, hm, hl48⟩ := rd_lens hr
  rw [← hn] at hk
  have HN : Hid (n = bs.length) := hn
  clear hn
  have hd : decide ((k : Int) < 0 ∨ (n : Int) < (k : Int)) = false := by simp; omega
  by_cases hs : n < k + 8
  · have hf : riseR bs k = (0, 0, 10) := by unfold riseR; rw [if_pos (by rw [← HN.out]; exact hs)]
    rw [hf]
    have e1 : (n : Int) - (k : Int) < 8 := by omega
    clear hf
    go_enter Tryd.func58, Tryd.ntmps58
    go_wp2_with fail
    refine (refOutside_any _ hl48).mono ?_
    rintro e w1 ⟨rfl, rfl⟩
    rw [hd]
    go_wp2
    go_ret3
    exact ⟨rfl, rfl⟩
  · have e1 : (8 : Int) ≤ (n : Int) - (k : Int) := by omega
    rcases rd_some hr with ⟨_, h0, _⟩ | ⟨b, off, rfl⟩
    · omega
    obtain ⟨N, hNN⟩ : ∃ N, N = num8 ((bs.drop k).take 8) := ⟨_, rfl⟩
    have HNN : Hid (num8 ((bs.drop k).take 8) = N) := hNN.symm
    by_cases hb : 9223372036854775807 < N
    · have hf : riseR bs k = (0, 0, 13) := by unfold riseR; rw [if_neg (by rw [← HN.out]; exact hs), if_pos (by rw [← hNN]; exact hb)]
      rw [hf]
      have e2 : (9223372036854775807 : Int) < (N : Int) := by omega
      clear hf hNN
      go_enter Tryd.func58, Tryd.ntmps58
      go_wp2_with fail
      refine (refOutside_any _ hl48).mono ?_
      rintro e w1 ⟨rfl, rfl⟩
      rw [hd]
      go_wp2_with fail
      refine (number_any hr k 8 (by omega) (by omega)).mono ?_
      rintro e w2 ⟨rfl, rfl⟩
      rw [HNN.out]
      go_wp2
      go_ret3
      exact ⟨rfl, rfl⟩
    · have hf : riseR bs k = (N, k + 8, 0) := by unfold riseR; rw [if_neg (by rw [← HN.out]; exact hs), if_neg (by rw [← hNN]; exact hb), ← hNN]
      rw [hf]
      have e2 : (N : Int) ≤ 9223372036854775807 := by omega
      have HW : Hid (IntKind.i64.wrap (N : Int) = (N : Int)) := by unfold Hid; simp only [IntKind.wrap, IntKind.bits, IntKind.signed]; simp; omega
      clear hf hNN
      go_enter Tryd.func58, Tryd.ntmps58
      go_wp2_with fail
      refine (refOutside_any _ hl48).mono ?_
      rintro e w1 ⟨rfl, rfl⟩
      rw [hd]
      go_wp2_with fail
      refine (number_any hr k 8 (by omega) (by omega)).mono ?_
      rintro e w2 ⟨rfl, rfl⟩
      rw [HNN.out]
      go_wp2
      go_ret3
      exact ⟨tup3i (by first | rfl | exact HW.out) (by omega), rfl⟩

set_option maxRecDepth 100000 in
theorem refReadFalling_out {v : Value} {bs : List Nat} {w : World} (hr : Rd w v bs) (at_ : Int) (h : at_ < 0 ∨ (bs.length : Int) < at_) :
    Calls Tryd.prog 60 #[v, .int .i64 at_] w fun e w' => e = .returned (.tuple #[.int .i64 0, .int .i64 0, .int .i64 1]) ∧ w' = w := by
  go_enter Tryd.func60, Tryd.ntmps60
  go_wp2_with fail
  refine (refReadRising_out hr at_ h).mono ?_
  rintro e w1 ⟨rfl, rfl⟩
  go_wp2
  go_ret3
  exact ⟨rfl, rfl⟩

set_option maxRecDepth 100000 in
set_option maxHeartbeats 1000000 in
theorem refReadFalling_in {v : Value} {bs : List Nat} {w : World} (hr : Rd w v bs) (k : Nat) (hk : k ≤ bs.length) :
    Calls Tryd.prog 60 #[v, .int .i64 (k : Int)] w fun e w' => e = .returned (.tuple #[.int .i64 (((fallR bs k).1 : Nat) : Int), .int .i64 (((fallR bs k).2.1 : Nat) : Int), .int .i64 (((fallR bs k).2.2 : Nat) : Int)]) ∧ w' = w := by
  have hl := riseR_lt bs k
  obtain ⟨R, hR⟩ : ∃ R, R = riseR bs k := ⟨_, rfl⟩
  have hc := refReadRising_in hr k hk
  rw [← hR] at hl hc
  unfold fallR
  rw [← hR]
  obtain ⟨V, P, E⟩ := R
  simp only at hl hc ⊢
  have HC : Hid (Calls Tryd.prog 58 #[v, .int .i64 (k : Int)] w fun e w' => e = .returned (.tuple #[.int .i64 (V : Int), .int .i64 (P : Int), .int .i64 (E : Int)]) ∧ w' = w) := hc
  clear hR hc hr
  by_cases hE : E = 0
  · subst hE
    simp only [ne_eq, not_true, if_false]
    have hv : (V : Int) ≤ 9223372036854775807 := by omega
    have HS : Hid ((9223372036854775807 : Int) - (V : Int) = ((9223372036854775807 - V : Nat) : Int)) := by unfold Hid; omega
    clear hl
    go_enter Tryd.func60, Tryd.ntmps60
    go_wp2_with fail
    refine HC.out.mono ?_
    rintro e w1 ⟨rfl, rfl⟩
    go_wp2
    go_ret3
    exact ⟨tup3i HS.out rfl, rfl⟩
  · rw [if_pos hE]
    have e1 : ((E : Int) != 0) = true := by simp; omega
    have e2 : ¬ ((E : Int) = 0) := by omega
    clear hl
    go_enter Tryd.func60, Tryd.ntmps60
    go_wp2_with fail
    refine HC.out.mono ?_
    rintro e w1 ⟨rfl, rfl⟩
    go_wp2
    go_ret3
    exact ⟨rfl, rfl⟩

end Go.Proofs.YtledfniedoapiaaDoor

namespace Go.Proofs.YtledfniedoapiaaDoor
open Go.RowKit
set_option linter.unusedVariables false

theorem T_pair_odd (q d : Nat) (h : ¬ q % 2 = d % 2) : (q / 2 ^^^ 2197175160) ^^^ (d / 2) = T (q ^^^ d) := by
  unfold T
  rw [xor_div2, xor_mod2]
  have hq : q % 2 = 0 ∨ q % 2 = 1 := by omega
  have hd : d % 2 = 0 ∨ d % 2 = 1 := by omega
  have e : (q % 2 ^^^ d % 2) = 1 := by
    rcases hq with hq | hq <;> rcases hd with hd | hd <;> simp [hq, hd] <;> omega
  rw [if_pos e, Nat.xor_assoc, Nat.xor_comm 2197175160, ← Nat.xor_assoc]
theorem T_pair_even (q d : Nat) (h : q % 2 = d % 2) : (q / 2) ^^^ (d / 2) = T (q ^^^ d) := by
  unfold T
  rw [xor_div2, xor_mod2, h, Nat.xor_self, if_neg (by omega), Nat.xor_zero]
theorem xor32h (q : Nat) (h : q < 4294967296) : bits .xor .u32 ((q : Int) / 2) 2197175160 = (((q / 2) ^^^ 2197175160 : Nat) : Int) := by
  have := xor32 (q / 2) 2197175160 (by omega) (by omega)
  rw [← this]
  congr 1
theorem Tn_last (t s : Nat) : T (Tn t s) = Tn (t + 1) s := by
  rw [Nat.add_comm, Tn_add]; rfl

set_option maxRecDepth 100000 in
set_option maxHeartbeats 2000000 in
theorem refSum_any {v : Value} {ps : List (List Nat)} {w : World} (hp : RdP w v ps) :
    Calls Tryd.prog 61 #[v] w fun e w' => e = .returned (.int .u32 ((sumL ps.flatten : Nat) : Int)) ∧ w' = w := by
  obtain ⟨hn, a, cap, rfl, hp⟩ := hp
  go_enter Tryd.func61, Tryd.ntmps61
  go_wp2
  go_loop [3, 4] (fun x i => ∃ k r : Nat, k ≤ ps.length ∧ i = .int .i64 (k : Int) ∧ x = .int .u32 (r : Int) ∧ r < 4294967296 ∧ r = crcL 4294967295 (ps.take k).flatten) (fun _ i => ps.length - (intOf i).toNat)
  case atStart => exact ⟨0, 4294967295, Nat.zero_le _, rfl, rfl, by omega, rfl⟩
  case round =>
    obtain ⟨k, r, hk, rfl, rfl, hr, hrr⟩ := hrel
    have HR : Hid (r = crcL 4294967295 (ps.take k).flatten) := hrr
    clear hrr
    by_cases hlt : k < ps.length
    · have hlt2 : (k : Int) < (ps.length : Int) := by omega
      rcases hp with rfl | ⟨b, off, rfl, hc⟩
      · simp at hlt
      obtain ⟨u, hu, hru⟩ := hc k hlt
      clear hc
      obtain ⟨hby, a2, cap2, hu2, hle, hm, hl48, hnone, hat⟩ := hru
      rw [hu2] at hu
      clear hu2
      obtain ⟨bs, hbs⟩ : ∃ bs, bs = ps.getD k [] := ⟨_, rfl⟩
      rw [← hbs] at hby hu hle hl48 hat
      have HB : Hid (bs = ps.getD k []) := hbs
      clear hbs
      go_wp2
      go_loop [3, 5] (fun x i => ∃ j q : Nat, j ≤ bs.length ∧ i = .int .i64 (j : Int) ∧ x = .int .u32 (q : Int) ∧ q < 4294967296 ∧ q = crcL r (bs.take j)) (fun _ i => bs.length - (intOf i).toNat)
      case atStart => exact ⟨0, r, Nat.zero_le _, rfl, rfl, hr, rfl⟩
      case round =>
        obtain ⟨j, q, hj, rfl, rfl, hq, hqq⟩ := hrel
        have HQ : Hid (q = crcL r (bs.take j)) := hqq
        clear hqq
        by_cases hjl : j < bs.length
        · have hjl2 : (j : Int) < (bs.length : Int) := by omega
          rcases hat with rfl | ⟨b2, off2, rfl, hc2⟩
          · simp at hjl
          have hcc := hc2 j hjl
          clear hc2
          have hcl := hby.get j
          obtain ⟨c, hcd⟩ : ∃ c, c = bs.getD j 0 := ⟨_, rfl⟩
          rw [← hcd] at hcc hcl
          have HC : Hid (c = bs.getD j 0) := hcd
          clear hcd
          go_wp2
          go_loop [3, 6, 7] (fun x y i => ∃ t s d : Nat, t ≤ 8 ∧ i = .int .i64 (t : Int) ∧ x = .int .u32 (s : Int) ∧ y = .int .u8 (d : Int) ∧ s < 4294967296 ∧ d = c / 2 ^ t ∧ s ^^^ d = Tn t (q ^^^ c)) (fun _ _ i => 8 - (intOf i).toNat)
          case atStart => exact ⟨0, q, c, by omega, rfl, rfl, rfl, hq, by simp, rfl⟩
          case round =>
            obtain ⟨t, s, d, ht8, rfl, rfl, rfl, hs, hd, hx⟩ := hrel
            have hd256 : d < 256 := by rw [hd]; exact Nat.lt_of_le_of_lt (Nat.div_le_self _ _) hcl
            have HD : Hid (d = c / 2 ^ t) := hd
            have HX : Hid (s ^^^ d = Tn t (q ^^^ c)) := hx
            clear hd hx
            by_cases hlt8 : t < 8
            · have hlt8' : (t : Int) < 8 := by omega
              have em : (d : Int) % 4294967296 = (d : Int) := by omega
              have HD2 : Hid (d / 2 = c / 2 ^ (t + 1)) := by unfold Hid; rw [HD.out, Nat.div_div_eq_div_mul, Nat.pow_succ]
              by_cases hpar : s % 2 = d % 2
              · have p1 : ((s : Int) % 2 == (d : Int) % 2) = true := by simp; omega
                have p2 : (s : Int) % 2 = (d : Int) % 2 := by omega
                have HX2 : Hid ((s / 2) ^^^ (d / 2) = Tn (t + 1) (q ^^^ c)) := by unfold Hid; rw [T_pair_even s d hpar, HX.out, Tn_last]
                clear hpar
                go_wp2
                go_round
                case rel => exact ⟨t + 1, s / 2, d / 2, by omega, by go_num, by go_num, by go_num, by omega, HD2.out, HX2.out⟩
                case measure => simp [intOf]; omega
              · have p1 : ((s : Int) % 2 == (d : Int) % 2) = false := by simp; omega
                have p2 : ¬ ((s : Int) % 2 = (d : Int) % 2) := by omega
                have HX2 : Hid ((s / 2 ^^^ 2197175160) ^^^ (d / 2) = Tn (t + 1) (q ^^^ c)) := by unfold Hid; rw [T_pair_odd s d hpar, HX.out, Tn_last]
                have HXL : Hid (s / 2 ^^^ 2197175160 < 4294967296) := Nat.xor_lt_two_pow (n := 32) (by omega) (by omega)
                have HXB : Hid (bits .xor .u32 ((s : Int) / 2) 2197175160 = (((s / 2) ^^^ 2197175160 : Nat) : Int)) := xor32h s hs
                clear hpar
                go_wp2
                go_round
                case rel => exact ⟨t + 1, s / 2 ^^^ 2197175160, d / 2, by omega, by go_num, by rw [HXB.out], by go_num, HXL.out, HD2.out, HX2.out⟩
                case measure => simp [intOf]; omega
            · have hge8 : (8 : Int) ≤ (t : Int) := by omega
              have ht : t = 8 := by omega
              have HF : Hid (s = crcB q c) := by
                unfold Hid
                have h1 := HX.out
                have h0 : d = 0 := by rw [HD.out, ht]; omega
                rw [h0, Nat.xor_zero, ht] at h1
                rw [crcB_eq]; exact h1
              clear ht
              go_wp2
              go_round
              case rel =>
                refine ⟨j + 1, s, by omega, by go_num, rfl, hs, ?_⟩
                rw [HF.out, take_succ_getD bs j hjl, crcL_snoc, ← HQ.out, ← HC.out]
              case measure => simp [intOf]; omega
        · have hjge : (bs.length : Int) ≤ (j : Int) := by omega
          go_wp2
          go_round
          case rel =>
            refine ⟨k + 1, q, by omega, by go_num, rfl, hq, ?_⟩
            rw [flat_snoc ps k hlt, crcL_append, ← HR.out, ← HB.out, HQ.out, List.take_of_length_le (by omega)]
          case measure => simp [intOf]; omega
    · have hkge : (ps.length : Int) ≤ (k : Int) := by omega
      have hk2 : ps.take k = ps := List.take_of_length_le (by omega)
      have hr2 := HR.out
      rw [hk2] at hr2
      have HR2 : Hid (r = crcL 4294967295 ps.flatten) := hr2
      have HE : Hid (IntKind.u32.wrap (4294967295 - (r : Int)) = ((4294967295 - r : Nat) : Int)) := by
        unfold Hid; simp only [IntKind.wrap, IntKind.bits, IntKind.signed]; simp; omega
      have HE2 : Hid ((4294967295 : Int) - (r : Int) = ((4294967295 - r : Nat) : Int)) := by unfold Hid; omega
      clear hr2 hk2
      go_wp2
      go_ret
      refine ⟨?_, rfl⟩
      unfold sumL
      rw [← HR2.out]
      first | exact congrArg (fun z : Int => Ending.returned (Value.int .u32 z)) HE2.out | exact congrArg (fun z : Int => Ending.returned (Value.int .u32 z)) HE.out

set_option maxRecDepth 100000 in
theorem refSame_any {a b : Value} {xs ys : List Nat} {w : World} (ha : Rd w a xs) (hb : Rd w b ys) :
    Calls Tryd.prog 66 #[a, b] w fun e w' => e = .returned (.bool (decide (xs = ys))) ∧ w' = w := by
  have h1 := conv_str ha
  have h2 := conv_str hb
  go_enter Tryd.func66, Tryd.ntmps66
  go_wp2
  go_ret
  exact ⟨by rw [← beq_str ha.1 hb.1]; rfl, rfl⟩

end Go.Proofs.YtledfniedoapiaaDoor

namespace Go.Proofs.YtledfniedoapiaaDoor
open Go.RowKit
set_option linter.unusedVariables false

theorem refSum_at {v : Value} {ps : List (List Nat)} {w : World} (hp : RdP w v ps) {S : Nat} (h : sumL ps.flatten = S) :
    Calls Tryd.prog 61 #[v] w fun e w' => e = .returned (.int .u32 (S : Int)) ∧ w' = w := by subst h; exact refSum_any hp

theorem own_new (w : World) (B g : Nat) (hg : g = w.heap.size) (hB : B ≤ w.heap.size) (arr : Array Value) (bs : List Nat) (h : arr.toList = bv bs) (n : Nat) (hn : n = bs.length) (hl : n ≤ 1000) : Own (w.alloc (.cells arr 5)) B (.slice (some ⟨g, 0, none⟩) n n) n bs := by
  subst hg
  have hsz : arr.size = n := by rw [← Array.length_toList, h, bv_length, hn]
  refine ⟨hn, by rw [bv_length, hn]; omega, .inr ⟨w.heap.size, n, arr, rfl, hB, heap_new w _, Nat.le_refl _, by unfold maxLen; omega, by omega, ?_⟩⟩
  rw [h, List.take_of_length_le (by rw [bv_length]; omega)]

set_option maxRecDepth 100000 in
set_option maxHeartbeats 1000000 in
theorem sealed_any {v : Value} {bs : List Nat} {w : World} (hr : Rd w v bs) :
    Calls Tryd.prog 64 #[v] w fun e w' => ∃ a m c, e = .returned (.slice a m c) ∧ Own w' w.heap.size (.slice a m c) m (le4 (sumL bs)) ∧ Below w.heap.size w w' := by
  obtain ⟨a, n, cap, rfl⟩ := rd_slice hr
  obtain ⟨S, hS⟩ : ∃ S, S = sumL bs := ⟨_, rfl⟩
  have HS : Hid (sumL [bs].flatten = S) := by unfold Hid; rw [hS]; simp
  have hs : S < 4294967296 := hS ▸ sumL_lt bs
  rw [← hS]
  clear hS
  have hp := RdP.one hr
  have A1 := (Below.refl w.heap.size w).alloc (Nat.le_refl _) (.cells #[.slice a n cap] 23)
  go_enter Tryd.func64, Tryd.ntmps64
  go_wp2_with fail
  refine (refSum_at hp HS.out).mono ?_
  rintro e w1 ⟨rfl, rfl⟩
  go_wp2
  go_ret
  have A2 := A1.alloc A1.size (.cells #[.int .u8 ((S : Int) % 256), .int .u8 ((S : Int) / 256 % 256), .int .u8 ((S : Int) / 65536 % 256), .int .u8 ((S : Int) / 16777216)] 5)
  refine ⟨_, 4, 4, rfl, own_new _ w.heap.size _ (by simp) A1.size _ _ ?_ 4 rfl (by omega), A2⟩
  simp [bv, le4]

set_option maxRecDepth 100000 in
theorem refFrame_long {v : Value} {bs : List Nat} {w : World} (hr : Rd w v bs) (hl : 1048576 < bs.length) :
    Calls Tryd.prog 38 #[v] w fun e w' => e = .returned (.tuple #[.slice none 0 0, .int .i64 2]) ∧ w' = w := by
  obtain ⟨a, n, cap, rfl⟩ := rd_slice hr
  obtain ⟨hn, _, _, _⟩ := rd_lens hr
  have h : (1048576 : Int) < (n : Int) := by omega
  clear hr hn
  go_enter Tryd.func38, Tryd.ntmps38
  go_wp2
  go_ret2
  exact ⟨rfl, rfl⟩
theorem be8_low (n : Nat) (h : n ≤ 1048576) : (be8 n).drop 4 = be4 n := by
  have h1 : n / 16777216 % 256 = n / 16777216 := by omega
  simp [be8, be4, h1]

set_option maxRecDepth 100000 in
set_option maxHeartbeats 2000000 in
theorem refFrame_ok {v : Value} {bs : List Nat} {w : World} (hr : Rd w v bs) (hl : bs.length ≤ 1048576) :
    Calls Tryd.prog 38 #[v] w fun e w' => ∃ a m c, e = .returned (.tuple #[.slice a m c, .int .i64 0]) ∧ Own w' w.heap.size (.slice a m c) m (frameL bs) ∧ Below w.heap.size w w' := by
  obtain ⟨a, n, cap, rfl⟩ := rd_slice hr
  obtain ⟨hn, hle, hm, hl48⟩ := rd_lens hr
  rw [← hn] at hl
  have HN : Hid (n = bs.length) := hn
  have hl2 : (n : Int) ≤ 1048576 := by omega
  have hem : (n : Int) % 18446744073709551616 = (n : Int) := by omega
  have HB4 : Hid ((be8 n).drop 4 = be4 n) := be8_low n hl
  have HBY : Hid (Bys (be4 n)) := be4_bys n (by omega)
  have HF : Hid (frameL bs = ((be4 n ++ le4 (sumL (be4 n))) ++ bs) ++ le4 (sumL bs)) := by unfold Hid frameL; rw [← hn]
  have HSB : Hid (∀ l : List Nat, Bys (le4 (sumL l))) := fun l => le4_bys _ (sumL_lt l)
  clear hn
  go_enter Tryd.func38, Tryd.ntmps38
  go_wp2_with fail
  refine (eight_any n (by omega) _).mono ?_
  rintro e w1 ⟨a1, m1, c1, rfl, own1, hb1⟩
  have hm1 : m1 = 8 := own1.1
  subst hm1
  have r8 := own1.rd (be8_bys n) (by omega)
  obtain ⟨hx8, hc8, hcm, hy8⟩ := rd_lens r8
  clear hx8 hy8
  rcases rd_some r8 with ⟨h0, _⟩ | ⟨g, off, rfl⟩
  · omega
  have r4 := r8.past 4 (by omega) (off' := off + 4) (n' := 4) (cap' := c1 - 4) rfl rfl rfl
  rw [HB4.out] at r4
  have hc4 : (4 : Int) ≤ (c1 : Int) := by omega
  have hc4' : ¬ c1 = 4 := by omega
  have HR4 : Hid (Rd w1 (.slice (some ⟨g, off + 4, none⟩) 4 (c1 - 4)) (be4 n)) := r4
  clear own1 r8 r4
  go_wp2_with fail
  refine (refPart_at HR4.out _ _ 0 4 rfl rfl (by omega) (by omega) (by omega)).mono ?_
  rintro e w2 ⟨a2, m2, c2, rfl, own2, hb2⟩
  have own22 : Own w2 w1.heap.size (.slice a2 m2 c2) m2 (be4 n) := by simpa [be4] using own2
  obtain rfl : m2 = 4 := own22.1
  clear own2
  have HR42 := HR4.out.later hb2
  go_wp2_with fail
  refine (sealed_any HR42).mono ?_
  rintro e w3 ⟨a3, m3, c3, rfl, own3, hb3⟩
  obtain rfl : m3 = 4 := own3.1
  have r3 := own3.rd (HSB.out _) (by omega)
  have B2 := hb1.trans (hb2.mono hb1.size)
  have B3 := B2.trans (hb3.mono B2.size)
  have own23 := (own22.later hb3).mono hb1.size
  have HS2 : ∀ m : Nat, m = (be4 n ++ le4 (sumL (be4 n))).length → m = 8 := fun m h => h
  have HS3 : ∀ m : Nat, m = ((be4 n ++ le4 (sumL (be4 n))) ++ bs).length → m = 8 + n := fun m h => by rw [h, List.length_append, HN.out]; rfl
  clear own22 own3 hb1 hb2 hb3 HR42
  go_wp2_with (first
    | (at_builtin; refine wpList_append_at rfl (.tmp 15) _ rfl w.heap.size a2 4 c2 _ rfl own23 a3 4 c3 _ rfl r3 (by omega) B3.size ?_; intro a4 m4 c4 w4 own4 hb4)
    | (at_builtin; refine wpList_append_at rfl (.tmp 19) _ rfl w.heap.size a4 m4 c4 _ rfl own4 a n cap bs rfl (hr.later (B3.trans hb4)) (by have := HS2 m4 own4.1; omega) (B3.trans hb4).size ?_; intro a5 m5 c5 w5 own5 hb5))
  have B5 := (B3.trans hb4).trans hb5
  have hr5 := hr.later B5
  refine (sealed_any hr5).mono ?_
  rintro e w6 ⟨a6, m6, c6, rfl, own6, hb6⟩
  obtain rfl : m6 = 4 := own6.1
  have r6 := own6.rd (HSB.out _) (by omega)
  have own56 := own5.later hb6
  have B6 := B5.trans (hb6.mono B5.size)
  go_wp2_with (at_builtin; refine wpList_append_at rfl (.tmp 22) _ rfl w.heap.size a5 m5 c5 _ rfl own56 a6 4 c6 _ rfl r6 (by have := HS3 m5 own5.1; omega) B6.size ?_; intro a7 m7 c7 w7 own7 hb7)
  go_ret2
  exact ⟨a7, m7, c7, rfl, by rw [HF.out]; exact own7, B6.trans hb7⟩

end Go.Proofs.YtledfniedoapiaaDoor
