import Derived.Test.YtjcpjpjccoeakaaJ08
import Derived.Test.YtjcpjpjccoeakaaJ07
import Derived.Lib.SmallJoins
namespace Go.Proofs.Ytjcpjpjccoeakaa
open Go.RowKit
set_option linter.unusedVariables false

theorem refReadUint_at {v : Value} {bs : List Nat} {w : World} (hr : Rd w v bs) (z : Int) (k : Nat) (hz : z = (k : Int)) (hk : k ≤ bs.length) {V P E : Nat} (h : uintR bs k = (V, P, E)) :
    Calls Try.prog 99 #[v, .int .i64 z] w fun e w' => e = .returned (.tuple #[.int .u64 (V : Int), .int .i64 (P : Int), .int .i64 (E : Int)]) ∧ w' = w := by
  subst hz
  have := refReadUint_in hr k hk
  rw [h] at this
  exact this
theorem refPart_at {b off n cap : Nat} {bs : List Nat} {w : World} (hr : Rd w (.slice (some ⟨b, off, none⟩) n cap) bs) (x y : Int) (i j : Nat) (hx : x = (i : Int)) (hy : y = (j : Int)) (hij : i ≤ j) (hj : j ≤ n) (h47 : n ≤ 140737488355328) :
    Calls Try.prog 100 #[.slice (some ⟨b, off, none⟩) n cap, .int .i64 x, .int .i64 y] w fun e w' => ∃ a m c, e = .returned (.slice a m c) ∧ Own w' w.heap.size (.slice a m c) m ((bs.take j).drop i) ∧ Below w.heap.size w w' := by
  subst hx hy
  exact refPart_any hr i j hij hj h47

set_option maxRecDepth 100000 in
set_option maxHeartbeats 1000000 in
theorem refReadBytes_in {v : Value} {bs : List Nat} {w : World} (hr : Rd w v bs) (k most : Nat) (hk : k ≤ bs.length) (hmost : most < 9223372036854775808) (h47 : bs.length ≤ 140737488355328) :
    Calls Try.prog 72 #[v, .int .i64 (k : Int), .int .i64 (most : Int)] w fun e w' => ∃ a m c, e = .returned (.tuple #[.slice a m c, .int .i64 (((bytesR bs k most).2.1 : Nat) : Int), .int .i64 (((bytesR bs k most).2.2 : Nat) : Int)]) ∧ Own w' w.heap.size (.slice a m c) m (bytesR bs k most).1 ∧ Below w.heap.size w w' := by
  obtain ⟨a, n, cap, rfl⟩ := rd_slice hr
  obtain ⟨hn, hle, hm, hl48⟩ := rd_lens hr
  have hk' := hk
  rw [← hn] at hk h47
  have HN : Hid (n = bs.length) := hn
  clear hn
  unfold maxLen at hm
  have hk2 : (k : Int) ≤ (n : Int) := by omega
  have hk0 : (0 : Int) ≤ (k : Int) := by omega
  have hd : decide ((k : Int) < 0 ∨ (n : Int) < (k : Int)) = false := by simp; omega
  have hm0 : (0 : Int) ≤ (most : Int) := by omega
  have hemm : (most : Int) % 18446744073709551616 = (most : Int) := by omega
  obtain ⟨R, hR⟩ : ∃ R, R = uintR bs k := ⟨_, rfl⟩
  obtain ⟨V, P, E⟩ := R
  have hEb : E ≤ 13 := by
    have := ruint_e 9 (bs.drop k) 0 0
    have h2 : E = (uintR bs k).2.2 := by rw [← hR]
    rw [h2]
    exact this
  have HK : Hid (k ≤ bs.length) := hk'
  have HRR : Hid (uintR bs k = (V, P, E)) := hR.symm
  clear hk'
  by_cases hE : E = 0
  · subst hE
    obtain ⟨hkp, hpn, hV⟩ := uintR_ok hR.symm HK.out
    rw [← HN.out] at hpn
    have hsub : ((n : Int) - (P : Int)) % 18446744073709551616 = (n : Int) - (P : Int) := by omega
    by_cases hbig : most < V
    · have hf : bytesR bs k most = ([], 0, 13) := by unfold bytesR; rw [← hR]; simp [hbig]
      rw [hf]
      have e1 : (most : Int) < (V : Int) := by omega
      clear hf hR
      go_enter Try.func72, Try.ntmps72
      go_wp2_with fail
      refine (refOutside_any _ hl48).mono ?_
      rintro e w1 ⟨rfl, rfl⟩
      rw [hd]
      go_wp2_with fail
      refine (refReadUint_at hr _ k rfl HK.out HRR.out).mono ?_
      rintro e w2 ⟨rfl, rfl⟩
      go_wp2
      go_ret3
      exact ⟨_, _, _, rfl, ⟨rfl, World.ownsRow_nil _ _ _ _⟩, Below.refl _ _⟩
    · have e1 : (V : Int) ≤ (most : Int) := by omega
      by_cases htorn : n < P + V
      · have hf : bytesR bs k most = ([], 0, 10) := by unfold bytesR; rw [← hR, ← HN.out]; simp [hbig, htorn]
        rw [hf]
        have e2 : (n : Int) - (P : Int) < (V : Int) := by omega
        clear hf hR
        go_enter Try.func72, Try.ntmps72
        go_wp2_with fail
        refine (refOutside_any _ hl48).mono ?_
        rintro e w1 ⟨rfl, rfl⟩
        rw [hd]
        go_wp2_with fail
        refine (refReadUint_at hr _ k rfl HK.out HRR.out).mono ?_
        rintro e w2 ⟨rfl, rfl⟩
        go_wp2
        go_ret3
        exact ⟨_, _, _, rfl, ⟨rfl, World.ownsRow_nil _ _ _ _⟩, Below.refl _ _⟩
      · have hf : bytesR bs k most = ((bs.drop P).take V, P + V, 0) := by unfold bytesR; rw [← hR, ← HN.out]; simp [hbig, htorn]
        rw [hf]
        have e2 : (V : Int) ≤ (n : Int) - (P : Int) := by omega
        have hVm : IntKind.i64.wrap (V : Int) = (V : Int) := by simp only [IntKind.wrap, IntKind.bits, IntKind.signed]; simp; omega
        clear hf hR
        rcases rd_some hr with ⟨h0, _⟩ | ⟨b, off, rfl⟩
        · omega
        have eb : (bs.take (P + V)).drop P = (bs.drop P).take V := by rw [List.drop_take]; congr 1; omega
        have HEB : Hid ((bs.take (P + V)).drop P = (bs.drop P).take V) := eb
        have HPV : Hid (P + V ≤ n) := by unfold Hid; omega
        have HS : Hid ((P : Int) + (V : Int) = ((P + V : Nat) : Int)) := by unfold Hid; omega
        clear eb htorn hbig
        go_enter Try.func72, Try.ntmps72
        go_wp2_with fail
        refine (refOutside_any _ hl48).mono ?_
        rintro e w1 ⟨rfl, rfl⟩
        rw [hd]
        go_wp2_with fail
        refine (refReadUint_at hr _ k rfl HK.out HRR.out).mono ?_
        rintro e w2 ⟨rfl, rfl⟩
        go_wp2_with fail
        refine (refPart_at hr _ _ P (P + V) rfl HS.out (by omega) HPV.out h47).mono ?_
        rintro e w5 ⟨a5, m5, c5, rfl, own5, hb5⟩
        rw [HEB.out] at own5
        go_wp2
        go_ret3
        refine ⟨a5, m5, c5, ?_, own5, hb5⟩
        exact congrArg (fun z : Int => Ending.returned (Value.tuple #[Value.slice a5 m5 c5, Value.int .i64 z, Value.int .i64 0])) HS.out
  · have hf : bytesR bs k most = ([], 0, E) := by unfold bytesR; rw [← hR]; simp [hE]
    rw [hf]
    have e1 : ((E : Int) != 0) = true := by simp; omega
    clear hf hR
    go_enter Try.func72, Try.ntmps72
    go_wp2_with fail
    refine (refOutside_any _ hl48).mono ?_
    rintro e w1 ⟨rfl, rfl⟩
    rw [hd]
    go_wp2_with fail
    refine (refReadUint_at hr _ k rfl HK.out HRR.out).mono ?_
    rintro e w2 ⟨rfl, rfl⟩
    go_wp2
    go_ret3
    exact ⟨_, _, _, rfl, ⟨rfl, World.ownsRow_nil _ _ _ _⟩, Below.refl _ _⟩

theorem own_one' (w : World) (B x : Nat) (z : Int) (hz : z = (x : Int)) (hB : B ≤ w.heap.size) : Own (w.alloc (.cells #[.int .u8 z] 5)) B (.slice (some ⟨w.heap.size, 0, none⟩) 1 1) 1 [x] := by
  subst hz; exact own_one w B x hB
theorem be8_step (V t : Nat) (h : t < 8) : (be8 V).drop (8 - (t + 1)) = [V / 256 ^ t % 256] ++ (be8 V).drop (8 - t) := by
  have hl : (be8 V).length = 8 := rfl
  rw [drop_cons' (be8 V) (8 - (t + 1)) (by rw [hl]; omega), be8_get V _ (by omega), show 8 - (t + 1) + 1 = 8 - t by omega, show 7 - (8 - (t + 1)) = t by omega, Nat.pow_mul]
  rfl

set_option maxRecDepth 100000 in
set_option maxHeartbeats 1000000 in
theorem eight_any (V : Nat) (hV : V < 18446744073709551616) (w : World) :
    Calls Try.prog 123 #[.int .u64 (V : Int)] w fun e w' => ∃ a m c, e = .returned (.slice a m c) ∧ Own w' w.heap.size (.slice a m c) m (be8 V) ∧ Below w.heap.size w w' := by
  have HB8 : Hid (∀ t, ((be8 V).drop (8 - t)).length ≤ t) := fun t => by rw [List.length_drop]; have : (be8 V).length = 8 := rfl; omega
  have HBY : Hid (∀ t, Bys ((be8 V).drop (8 - t))) := fun t x hx => be8_bys V x (List.mem_of_mem_drop hx)
  go_enter Try.func123, Try.ntmps123
  go_wp2
  go_loopw [0, 3, 4] (fun x s i wr => ∃ (t u : Nat) (a : Option Addr) (m c : Nat), t ≤ 8 ∧ x = .int .u64 (u : Int) ∧ u = V / 256 ^ t ∧ i = .int .i64 (t : Int) ∧ s = .slice a m c ∧ Own wr w.heap.size (.slice a m c) m ((be8 V).drop (8 - t)) ∧ Below w.heap.size w wr) (fun _ _ i _ => 8 - (intOf i).toNat)
  case atStart => exact ⟨0, V, _, _, _, by omega, rfl, by simp, rfl, rfl, ⟨rfl, World.ownsRow_nil _ _ _ _⟩, Below.refl _ _⟩
  case round =>
    obtain ⟨t, u, a1, m1, c1, ht, rfl, hu, rfl, rfl, own1, hb⟩ := hrel
    have HU : Hid (u = V / 256 ^ t) := hu
    have hu64 : u < 18446744073709551616 := by rw [hu]; exact Nat.lt_of_le_of_lt (Nat.div_le_self _ _) hV
    clear hu
    have hbs := hb.size
    have hm1 : m1 ≤ t := by rw [own1.1]; exact HB8.out t
    by_cases hlt : t < 8
    · have hlt2 : (t : Int) < 8 := by omega
      have r1 := own1.rd (HBY.out t) (by omega)
      have HST : Hid ((be8 V).drop (8 - (t + 1)) = [u % 256] ++ (be8 V).drop (8 - t)) := by unfold Hid; rw [be8_step V t hlt, HU.out]
      go_wp2_with (at_builtin; refine wpList_append_at rfl (.tmp 12) _ rfl w.heap.size (some ⟨wr.heap.size, 0, none⟩) 1 1 [u % 256] rfl (own_one' wr w.heap.size (u % 256) _ (by first | rfl | omega | (simp; done) | (simp; omega)) hbs) a1 m1 c1 _ rfl (r1.later ((Below.refl _ _).alloc (Nat.le_refl _) _)) (by omega) (by simp; omega) ?_; intro a3 m3 c3 w3 own3 hb3)
      go_roundw
      case rel => exact ⟨t + 1, u / 256, a3, m3, c3, by omega, by go_num, by rw [HU.out, Nat.div_div_eq_div_mul, Nat.pow_succ], by go_num, rfl, by rw [HST.out]; exact own3, hb.trans (((Below.refl w.heap.size wr).alloc hbs _).trans hb3)⟩
      case measure => simp [intOf]; omega
    · have hge : (8 : Int) ≤ (t : Int) := by omega
      have ht8 : t = 8 := by omega
      have HT : Hid (t = 8) := ht8
      clear ht8
      go_wp2
      go_ret
      refine ⟨a1, m1, c1, rfl, ?_, hb⟩
      have h := own1
      rw [HT.out] at h
      simpa using h

set_option maxRecDepth 100000 in
theorem refRising_neg (z : Int) (hz : z < 0) (w : World) : Calls Try.prog 113 #[.int .i64 z] w fun e w' => e = .returned (.tuple #[.slice none 0 0, .int .i64 1]) ∧ w' = w := by
  go_enter Try.func113, Try.ntmps113
  go_wp2
  go_ret2
  exact ⟨rfl, rfl⟩
set_option maxRecDepth 100000 in
theorem refFalling_neg (z : Int) (hz : z < 0) (w : World) : Calls Try.prog 95 #[.int .i64 z] w fun e w' => e = .returned (.tuple #[.slice none 0 0, .int .i64 1]) ∧ w' = w := by
  go_enter Try.func95, Try.ntmps95
  go_wp2
  go_ret2
  exact ⟨rfl, rfl⟩
set_option maxRecDepth 100000 in
set_option maxHeartbeats 400000 in
theorem refRising_any (n : Nat) (hn : n < 9223372036854775808) (w : World) :
    Calls Try.prog 113 #[.int .i64 (n : Int)] w fun e w' => ∃ a m c, e = .returned (.tuple #[.slice a m c, .int .i64 0]) ∧ Own w' w.heap.size (.slice a m c) m (be8 n) ∧ Below w.heap.size w w' := by
  have h0 : (0 : Int) ≤ (n : Int) := by omega
  have hem : (n : Int) % 18446744073709551616 = (n : Int) := by omega
  go_enter Try.func113, Try.ntmps113
  go_wp2_with fail
  refine (eight_any n (by omega) _).mono ?_
  rintro e w1 ⟨a1, m1, c1, rfl, own1, hb1⟩
  go_wp2
  go_ret2
  exact ⟨a1, m1, c1, rfl, own1, hb1⟩
theorem refRising_at (z : Int) (n : Nat) (hz : z = (n : Int)) (hn : n < 9223372036854775808) (w : World) :
    Calls Try.prog 113 #[.int .i64 z] w fun e w' => ∃ a m c, e = .returned (.tuple #[.slice a m c, .int .i64 0]) ∧ Own w' w.heap.size (.slice a m c) m (be8 n) ∧ Below w.heap.size w w' := by
  subst hz; exact refRising_any n hn w
set_option maxRecDepth 100000 in
set_option maxHeartbeats 400000 in
theorem refFalling_any (n : Nat) (hn : n < 9223372036854775808) (w : World) :
    Calls Try.prog 95 #[.int .i64 (n : Int)] w fun e w' => ∃ a m c, e = .returned (.tuple #[.slice a m c, .int .i64 0]) ∧ Own w' w.heap.size (.slice a m c) m (be8 (9223372036854775807 - n)) ∧ Below w.heap.size w w' := by
  have h0 : (0 : Int) ≤ (n : Int) := by omega
  have h1 : (n : Int) ≤ 9223372036854775807 := by omega
  have HS : Hid ((9223372036854775807 : Int) - (n : Int) = ((9223372036854775807 - n : Nat) : Int)) := by unfold Hid; omega
  go_enter Try.func95, Try.ntmps95
  go_wp2_with fail
  refine (refRising_at _ (9223372036854775807 - n) HS.out (by omega) _).mono ?_
  rintro e w1 ⟨a1, m1, c1, rfl, own1, hb1⟩
  go_wp2
  go_ret2
  exact ⟨a1, m1, c1, rfl, own1, hb1⟩

theorem wrapN (v c : Nat) (h : v * 256 + c < 18446744073709551616) : IntKind.u64.wrap (IntKind.u64.wrap (256 * (v : Int)) + (c : Int)) = ((v * 256 + c : Nat) : Int) := by
  rw [IntKind.wrap_u64, IntKind.wrap_u64]; omega

set_option maxRecDepth 100000 in
set_option maxHeartbeats 1000000 in
theorem number_any {b off n cap : Nat} {bs : List Nat} {w : World} (hr : Rd w (.slice (some ⟨b, off, none⟩) n cap) bs) (k q : Nat) (hq : q ≤ 8) (hk : k + q ≤ n) :
    Calls Try.prog 114 #[.slice (some ⟨b, off, none⟩) n cap, .int .i64 (k : Int), .int .i64 (q : Int)] w fun e w' => e = .returned (.int .u64 ((num8 ((bs.drop k).take q) : Nat) : Int)) ∧ w' = w := by
  obtain ⟨hn, hle, hm, hl48⟩ := rd_lens hr
  have HN : Hid (n = bs.length) := hn
  clear hn
  obtain ⟨L, hL⟩ : ∃ L, L = (bs.drop k).take q := ⟨_, rfl⟩
  rw [← hL]
  have HLL : Hid (L.length = q) := by unfold Hid; rw [hL, List.length_take, List.length_drop, ← HN.out]; omega
  have HLB : Hid (Bys L) := by unfold Hid; rw [hL]; exact fun x hx => hr.1 x (List.mem_of_mem_drop (List.mem_of_mem_take hx))
  have HLG : Hid (∀ t, t < q → L.getD t 0 = bs.getD (k + t) 0) := fun t ht => by
    rw [hL]; simp [List.getElem?_take_of_lt ht]
  clear hL
  go_enter Try.func114, Try.ntmps114
  go_wp2
  go_loop [7, 8] (fun x y => ∃ t v : Nat, t ≤ q ∧ x = .int .u64 (v : Int) ∧ v = num8 (L.take t) ∧ y = .int .i64 (t : Int)) (fun _ y => q - (intOf y).toNat)
  case atStart => exact ⟨0, 0, by omega, rfl, rfl, rfl⟩
  case round =>
    obtain ⟨t, v, ht, rfl, hv, rfl⟩ := hrel
    have HV : Hid (v = num8 (L.take t)) := hv
    clear hv
    by_cases hlt : t < q
    · have hlt2 : (t : Int) < (q : Int) := by omega
      obtain ⟨hc, hcl⟩ := rd_cell hr (k + t) (by omega)
      rw [← HLG.out t hlt] at hc hcl
      obtain ⟨c, hcd⟩ : ∃ c, c = L.getD t 0 := ⟨_, rfl⟩
      have HS : Hid (num8 (L.take (t + 1)) = v * 256 + c) := by unfold Hid; rw [num8_snoc L t (by rw [HLL.out]; exact hlt), ← HV.out, hcd]
      rw [← hcd] at hc hcl
      have hkt : (k : Int) + (t : Int) < (n : Int) := by omega
      have hkt0 : (0 : Int) ≤ (k : Int) + (t : Int) := by omega
      have hlt64 : v * 256 + c < 18446744073709551616 := by
        rw [← HS.out]
        have h1 := num8_lt (L.take (t + 1)) (fun x hx => HLB.out x (List.mem_of_mem_take hx))
        have h2 : (L.take (t + 1)).length ≤ 8 := by rw [List.length_take]; omega
        have h3 : 256 ^ (L.take (t + 1)).length ≤ 256 ^ 8 := Nat.pow_le_pow_right (by omega) h2
        have h4 : (256 : Nat) ^ 8 = 18446744073709551616 := by decide
        omega
      have HWN : Hid (IntKind.u64.wrap (IntKind.u64.wrap (256 * (v : Int)) + (c : Int)) = ((v * 256 + c : Nat) : Int)) := wrapN v c hlt64
      clear hcd hlt64
      go_wp2
      go_round
      case rel => exact ⟨t + 1, v * 256 + c, by omega, by rw [HWN.out], by rw [HS.out], by go_num⟩
      case measure => simp [intOf]; omega
    · have hge : (q : Int) ≤ (t : Int) := by omega
      have HT : Hid (v = num8 L) := by
        unfold Hid
        rw [HV.out, List.take_of_length_le (by rw [HLL.out]; omega)]
      go_wp2
      go_ret
      exact ⟨congrArg (fun z : Nat => Ending.returned (Value.int .u64 (z : Int))) HT.out, rfl⟩

set_option maxRecDepth 100000 in
theorem refReadRising_out {v : Value} {bs : List Nat} {w : World} (hr : Rd w v bs) (at_ : Int) (h : at_ < 0 ∨ (bs.length : Int) < at_) :
    Calls Try.prog 98 #[v, .int .i64 at_] w fun e w' => e = .returned (.tuple #[.int .i64 0, .int .i64 0, .int .i64 1]) ∧ w' = w := by
  obtain ⟨a, n, cap, rfl⟩ := rd_slice hr
  obtain ⟨hn, hle, hm, hl48⟩ := rd_lens hr
  rw [← hn] at h
  clear hn hr
  have hd : decide (at_ < 0 ∨ (n : Int) < at_) = true := by simpa using h
  clear h
  go_enter Try.func98, Try.ntmps98
  go_wp2_with fail
  refine (refOutside_any at_ hl48).mono ?_
  rintro e w1 ⟨rfl, rfl⟩
  rw [hd]
  go_wp2
  go_ret3
  exact ⟨rfl, rfl⟩

theorem tup3i {X X' Y Y' Z : Int} (h1 : X = X') (h2 : Y = Y') : Ending.returned (Value.tuple #[Value.int .i64 X, Value.int .i64 Y, Value.int .i64 Z]) = Ending.returned (Value.tuple #[Value.int .i64 X', Value.int .i64 Y', Value.int .i64 Z]) := by rw [h1, h2]

set_option maxRecDepth 100000 in
set_option maxHeartbeats 1000000 in
theorem refReadRising_in {v : Value} {bs : List Nat} {w : World} (hr : Rd w v bs) (k : Nat) (hk : k ≤ bs.length) :
    Calls Try.prog 98 #[v, .int .i64 (k : Int)] w fun e w' => e = .returned (.tuple #[.int .i64 (((riseR bs k).1 : Nat) : Int), .int .i64 (((riseR bs k).2.1 : Nat) : Int), .int .i64 (((riseR bs k).2.2 : Nat) : Int)]) ∧ w' = w := by
  obtain ⟨a, n, cap, rfl⟩ := rd_slice hr
  obtain ⟨hn, hle, hm, hl48⟩ := rd_lens hr
  rw [← hn] at hk
  have HN : Hid (n = bs.length) := hn
  clear hn
  have hd : decide ((k : Int) < 0 ∨ (n : Int) < (k : Int)) = false := by simp; omega
  by_cases hs : n < k + 8
  · have hf : riseR bs k = (0, 0, 10) := by unfold riseR; rw [if_pos (by rw [← HN.out]; exact hs)]
    rw [hf]
    have e1 : (n : Int) - (k : Int) < 8 := by omega
    clear hf
    go_enter Try.func98, Try.ntmps98
    go_wp2_with fail
    refine (refOutside_any _ hl48).mono ?_
    rintro e w1 ⟨rfl, rfl⟩
    rw [hd]
    go_wp2
    go_ret3
    exact ⟨rfl, rfl⟩
  · have e1 : (8 : Int) ≤ (n : Int) - (k : Int) := by omega
    rcases rd_some hr with ⟨_, h0, _⟩ | ⟨b, off, rfl⟩
    · omega
    obtain ⟨N, hNN⟩ : ∃ N, N = num8 ((bs.drop k).take 8) := ⟨_, rfl⟩
    have HNN : Hid (num8 ((bs.drop k).take 8) = N) := hNN.symm
    by_cases hb : 9223372036854775807 < N
    · have hf : riseR bs k = (0, 0, 13) := by unfold riseR; rw [if_neg (by rw [← HN.out]; exact hs), if_pos (by rw [← hNN]; exact hb)]
      rw [hf]
      have e2 : (9223372036854775807 : Int) < (N : Int) := by omega
      clear hf hNN
      go_enter Try.func98, Try.ntmps98
      go_wp2_with fail
      refine (refOutside_any _ hl48).mono ?_
      rintro e w1 ⟨rfl, rfl⟩
      rw [hd]
      go_wp2_with fail
      refine (number_any hr k 8 (by omega) (by omega)).mono ?_
      rintro e w2 ⟨rfl, rfl⟩
      rw [HNN.out]
      go_wp2
      go_ret3
      exact ⟨rfl, rfl⟩
    · have hf : riseR bs k = (N, k + 8, 0) := by unfold riseR; rw [if_neg (by rw [← HN.out]; exact hs), if_neg (by rw [← hNN]; exact hb), ← hNN]
      rw [hf]
      have e2 : (N : Int) ≤ 9223372036854775807 := by omega
      have HW : Hid (IntKind.i64.wrap (N : Int) = (N : Int)) := by unfold Hid; simp only [IntKind.wrap, IntKind.bits, IntKind.signed]; simp; omega
      clear hf hNN
      go_enter Try.func98, Try.ntmps98
      go_wp2_with fail
      refine (refOutside_any _ hl48).mono ?_
      rintro e w1 ⟨rfl, rfl⟩
      rw [hd]
      go_wp2_with fail
      refine (number_any hr k 8 (by omega) (by omega)).mono ?_
      rintro e w2 ⟨rfl, rfl⟩
      rw [HNN.out]
      go_wp2
      go_ret3
      exact ⟨tup3i (by first | rfl | exact HW.out) (by omega), rfl⟩

set_option maxRecDepth 100000 in
theorem refReadFalling_out {v : Value} {bs : List Nat} {w : World} (hr : Rd w v bs) (at_ : Int) (h : at_ < 0 ∨ (bs.length : Int) < at_) :
    Calls Try.prog 70 #[v, .int .i64 at_] w fun e w' => e = .returned (.tuple #[.int .i64 0, .int .i64 0, .int .i64 1]) ∧ w' = w := by
  go_enter Try.func70, Try.ntmps70
  go_wp2_with fail
  refine (refReadRising_out hr at_ h).mono ?_
  rintro e w1 ⟨rfl, rfl⟩
  go_wp2
  go_ret3
  exact ⟨rfl, rfl⟩

set_option maxRecDepth 100000 in
set_option maxHeartbeats 1000000 in
theorem refReadFalling_in {v : Value} {bs : List Nat} {w : World} (hr : Rd w v bs) (k : Nat) (hk : k ≤ bs.length) :
    Calls Try.prog 70 #[v, .int .i64 (k : Int)] w fun e w' => e = .returned (.tuple #[.int .i64 (((fallR bs k).1 : Nat) : Int), .int .i64 (((fallR bs k).2.1 : Nat) : Int), .int .i64 (((fallR bs k).2.2 : Nat) : Int)]) ∧ w' = w := by
  have hl := riseR_lt bs k
  obtain ⟨R, hR⟩ : ∃ R, R = riseR bs k := ⟨_, rfl⟩
  have hc := refReadRising_in hr k hk
  rw [← hR] at hl hc
  unfold fallR
  rw [← hR]
  obtain ⟨V, P, E⟩ := R
  simp only at hl hc ⊢
  have HC : Hid (Calls Try.prog 98 #[v, .int .i64 (k : Int)] w fun e w' => e = .returned (.tuple #[.int .i64 (V : Int), .int .i64 (P : Int), .int .i64 (E : Int)]) ∧ w' = w) := hc
  clear hR hc hr
  by_cases hE : E = 0
  · subst hE
    simp only [ne_eq, not_true, if_false]
    have hv : (V : Int) ≤ 9223372036854775807 := by omega
    have HS : Hid ((9223372036854775807 : Int) - (V : Int) = ((9223372036854775807 - V : Nat) : Int)) := by unfold Hid; omega
    clear hl
    go_enter Try.func70, Try.ntmps70
    go_wp2_with fail
    refine HC.out.mono ?_
    rintro e w1 ⟨rfl, rfl⟩
    go_wp2
    go_ret3
    exact ⟨tup3i HS.out rfl, rfl⟩
  · rw [if_pos hE]
    have e1 : ((E : Int) != 0) = true := by simp; omega
    have e2 : ¬ ((E : Int) = 0) := by omega
    clear hl
    go_enter Try.func70, Try.ntmps70
    go_wp2_with fail
    refine HC.out.mono ?_
    rintro e w1 ⟨rfl, rfl⟩
    go_wp2
    go_ret3
    exact ⟨rfl, rfl⟩

end Go.Proofs.Ytjcpjpjccoeakaa

namespace Go.Proofs.Ytjcpjpjccoeakaa
open Go.RowKit
set_option linter.unusedVariables false

/-- The entry that may be, and its key. -/
def plainD (vr vq vv : Value) : EntD := ⟨vr, 1, vq, 5, 32, 1, vv, [114], [113], [118]⟩
def zeroD : EntD := ⟨.slice none 0 0, 0, .slice none 0 0, 0, 0, 0, .slice none 0 0, [], [], []⟩
theorem rd_one {w : World} {g x : Nat} (h : w.cell? ⟨g, 0, none⟩ = some (.int .u8 (x : Int))) (hx : x < 256) : Rd w (.slice (some ⟨g, 0, none⟩) 1 1) [x] :=
  ⟨fun y hy => by simp at hy; omega, _, 1, rfl, Nat.le_refl _, by decide, by simp, .inr ⟨g, 0, rfl⟩, .inr ⟨g, 0, rfl, fun i hi => by
    obtain rfl : i = 0 := by simp at hi; omega
    simpa using h⟩⟩
theorem Apart.cell {g : Nat} {w w' : World} (h : Apart g w w') {k i : Nat} {x : Value} (hx : w.cell? ⟨k, i, none⟩ = some x) (hk : k ≠ g) : w'.cell? ⟨k, i, none⟩ = some x := by
  have hl : k < w.heap.size := World.block_lt_of_cell? w _ hx
  have e := h.block k hl hk
  unfold World.cell? at hx ⊢
  rw [e]
  exact hx


/-- Three byte strings behind an entry. -/
theorem three (w : World) (E : EntD) : ∃ w4, w4 = (((w.alloc (.cells E.cells 35)).alloc (.cells #[.int .u8 114] 5 (1, 2))).alloc (.cells #[.int .u8 113] 5 (1, 2))).alloc (.cells #[.int .u8 118] 5 (1, 2)) ∧ EBox w4 w.heap.size E ∧
    w4.cell? ⟨w.heap.size + 1, 0, none⟩ = some (.int .u8 114) ∧ w4.cell? ⟨w.heap.size + 2, 0, none⟩ = some (.int .u8 113) ∧ w4.cell? ⟨w.heap.size + 3, 0, none⟩ = some (.int .u8 118) ∧ Below w.heap.size w w4 := by
  have A1 := (Below.refl w.heap.size w).alloc (Nat.le_refl _) (.cells E.cells 35)
  have b1 := EBox.new w E
  have s1 : (w.alloc (.cells E.cells 35)).heap.size = w.heap.size + 1 := by simp
  obtain ⟨w1, hw1⟩ : ∃ w1, w1 = w.alloc (.cells E.cells 35) := ⟨_, rfl⟩
  rw [← hw1] at A1 b1 s1
  have A2 := (Below.refl w1.heap.size w1).alloc (Nat.le_refl _) (.cells #[.int .u8 114] 5 (1, 2))
  have s2 : (w1.alloc (.cells #[.int .u8 114] 5 (1, 2))).heap.size = w.heap.size + 2 := by simp [s1]
  have c2 : (w1.alloc (.cells #[.int .u8 114] 5 (1, 2))).cell? ⟨w.heap.size + 1, 0, none⟩ = some (.int .u8 114) := by rw [Joins.cell_alloc_mark_at _ _ _ _ _ _ s1.symm]; rfl
  obtain ⟨w2, hw2⟩ : ∃ w2, w2 = w1.alloc (.cells #[.int .u8 114] 5 (1, 2)) := ⟨_, rfl⟩
  rw [← hw2] at A2 s2 c2
  have A3 := (Below.refl w2.heap.size w2).alloc (Nat.le_refl _) (.cells #[.int .u8 113] 5 (1, 2))
  have s3 : (w2.alloc (.cells #[.int .u8 113] 5 (1, 2))).heap.size = w.heap.size + 3 := by simp [s2]
  have c3 : (w2.alloc (.cells #[.int .u8 113] 5 (1, 2))).cell? ⟨w.heap.size + 2, 0, none⟩ = some (.int .u8 113) := by rw [Joins.cell_alloc_mark_at _ _ _ _ _ _ s2.symm]; rfl
  obtain ⟨w3, hw3⟩ : ∃ w3, w3 = w2.alloc (.cells #[.int .u8 113] 5 (1, 2)) := ⟨_, rfl⟩
  rw [← hw3] at A3 s3 c3
  have A4 := (Below.refl w3.heap.size w3).alloc (Nat.le_refl _) (.cells #[.int .u8 118] 5 (1, 2))
  have c4 : (w3.alloc (.cells #[.int .u8 118] 5 (1, 2))).cell? ⟨w.heap.size + 3, 0, none⟩ = some (.int .u8 118) := by rw [Joins.cell_alloc_mark_at _ _ _ _ _ _ s3.symm]; rfl
  obtain ⟨w4, hw4⟩ : ∃ w4, w4 = w3.alloc (.cells #[.int .u8 118] 5 (1, 2)) := ⟨_, rfl⟩
  rw [← hw4] at A4 c4
  refine ⟨w4, by rw [hw4, hw3, hw2, hw1], ((b1.later A2).later A3).later A4, ?_, ?_, c4, ((A1.trans (A2.mono A1.size)).trans (A3.mono (by omega))).trans (A4.mono (by omega))⟩
  · rw [A4.cell (p := ⟨w.heap.size + 1, 0, none⟩) (by simp; omega), A3.cell (p := ⟨w.heap.size + 1, 0, none⟩) (by simp; omega)]; exact c2
  · rw [A4.cell (p := ⟨w.heap.size + 2, 0, none⟩) (by simp; omega)]; exact c3

set_option maxRecDepth 100000 in
set_option maxHeartbeats 1000000 in
theorem plain_any (w : World) : Calls Try.prog 55 #[] w fun e w' => ∃ vr vq vv, e = .returned (.agg (plainD vr vq vv).cells) ∧ EntD.Ok w' (plainD vr vq vv) ∧ Below w.heap.size w w' := by
  have k1 := Joins.run_convert_bytes_const_at (P := Try.prog) (w.alloc (.cells zeroD.cells 35)) 33 5 #[.int .u8 114] 1 1 (w.heap.size + 1) (by simp) und_bytes und_byte
  have k2 := Joins.run_convert_bytes_const_at (P := Try.prog) ((w.alloc (.cells zeroD.cells 35)).alloc (.cells #[.int .u8 114] 5 (1, 2))) 33 5 #[.int .u8 113] 1 1 (w.heap.size + 2) (by simp) und_bytes und_byte
  have k3 := Joins.run_convert_bytes_const_at (P := Try.prog) (((w.alloc (.cells zeroD.cells 35)).alloc (.cells #[.int .u8 114] 5 (1, 2))).alloc (.cells #[.int .u8 113] 5 (1, 2))) 33 5 #[.int .u8 118] 1 1 (w.heap.size + 3) (by simp) und_bytes und_byte
  simp only [zeroD, EntD.cells, List.size_toArray, List.length_cons, List.length_nil, Nat.zero_add] at k1 k2 k3
  obtain ⟨w4, hw4, bx, d2, d3, d4, bel⟩ := three w (plainD (.slice (some ⟨w.heap.size + 1, 0, none⟩) 1 1) (.slice (some ⟨w.heap.size + 2, 0, none⟩) 1 1) (.slice (some ⟨w.heap.size + 3, 0, none⟩) 1 1))
  have HF : Hid (_ ∧ _ ∧ _ ∧ _ ∧ _ ∧ _) := ⟨hw4, bx, d2, d3, d4, bel⟩
  clear bx d2 d3 d4 bel hw4
  simp only [plainD, EntD.cells] at HF
  go_enter Try.func55, Try.ntmps55
  go_wp2
  clear k1 k2 k3
  obtain ⟨hw4, bx, d2, d3, d4, bel⟩ := HF.out
  clear HF
  rw [← hw4]
  have y0 := bx.vr
  have y1 := bx.fam
  have y2 := bx.vq
  have y3 := bx.ts
  have y4 := bx.seq
  have y5 := bx.kind
  have y6 := bx.vv
  simp only at y0 y1 y2 y3 y4 y5 y6
  refine bodyPost_ret (v := .agg (plainD (.slice (some ⟨w.heap.size + 1, 0, none⟩) 1 1) (.slice (some ⟨w.heap.size + 2, 0, none⟩) 1 1) (.slice (some ⟨w.heap.size + 3, 0, none⟩) 1 1)).cells) (by simp [results, Try.results55, go_sem, y0, y1, y2, y3, y4, y5, y6, plainD, EntD.cells]) rfl ?_
  exact ⟨_, _, _, rfl, ⟨rd_one d2 (by decide), rd_one d3 (by decide), rd_one d4 (by decide)⟩, bel⟩

def plainK : List Nat := [114, 0, 1, 1, 1, 113, 0, 1, 1, 127, 255, 255, 255, 255, 255, 255, 250, 127, 255, 255, 255, 255, 255, 255, 223, 1]
theorem plainK_bys : Bys plainK := by
  have h : ∀ x ∈ plainK, x < 256 := by decide
  exact h
theorem be8_a : be8 (9223372036854775807 - 5) = [127, 255, 255, 255, 255, 255, 255, 250] := by decide +kernel
theorem be8_b : be8 (9223372036854775807 - 32) = [127, 255, 255, 255, 255, 255, 255, 223] := by decide +kernel
theorem keyL_plain (vr vq vv : Value) : keyL (plainD vr vq vv) = plainK := by
  have h1 : ordL [114] = [114, 0, 1] := by simp [ordL, escL]
  have h2 : ordL [113] = [113, 0, 1] := by simp [ordL, escL]
  show ((((ordL [114] ++ [1, mark 1 5]) ++ (if (1 : Int) = 5 then [] else ordL [113] ++ [mark 1 4])) ++ be8 (9223372036854775807 - 5)) ++ be8 (9223372036854775807 - 32)) ++ [1] = plainK
  rw [h1, h2, be8_a, be8_b]
  simp [mark, plainK]

set_option maxRecDepth 100000 in
theorem refOut_in (n lo hi : Int) (w : World) (h1 : lo ≤ n) (h2 : n ≤ hi) : Calls Try.prog 53 #[.int .i64 n, .int .i64 lo, .int .i64 hi] w fun e w' => e = .returned (.bool false) ∧ w' = w := by
  have d1 : decide (n < lo) = false := by simpa using h1
  have d2 : decide (hi < n) = false := by simpa using h2
  go_enter Try.func53, Try.ntmps53
  go_wp2
  go_ret
  exact ⟨by first | rfl | simp [d1, d2], rfl⟩

end Go.Proofs.Ytjcpjpjccoeakaa
