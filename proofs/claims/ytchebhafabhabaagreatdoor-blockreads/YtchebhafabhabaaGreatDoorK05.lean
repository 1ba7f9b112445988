import Derived.Test.YtchebhafabhabaaGreatDoorK04
import Derived.Lib.SmallJoins
namespace Go.Proofs.YtchebhafabhabaaGreatDoor
open Go.RowKit
set_option linter.unusedVariables false

set_option maxRecDepth 100000 in
theorem refOutside_any {a : Option Addr} {n cap : Nat} (i : Int) {w : World} (_hn : n ≤ 281474976710656) :
  Calls Tryz.prog 111 #[.slice a n cap, .int .i64 i] w fun e w' => e = .returned (.bool (decide (i < 0 ∨ (n : Int) < i))) ∧ w' = w := by
 by_cases h1 : i < 0
 ·have hd : decide (i < 0) = true := by simpa using h1
  have h2 : decide (i < 0 ∨ (n : Int) < i) = true := by simp [h1]
  go_enter Tryz.func111, Tryz.ntmps111
  go_wp2
  go_ret
  exact ⟨by first | rfl | (rw [h2]; rfl), rfl⟩
 ·have hd : decide (i < 0) = false := by simpa using h1
  go_enter Tryz.func111, Tryz.ntmps111
  go_wp2
  go_ret
  exact ⟨rfl, rfl⟩

set_option maxRecDepth 100000 in
set_option maxHeartbeats 1000000 in
theorem refOrdered_any {v : Value} {bs : List Nat} {w : World} (hr : Rd w v bs) (hl : (ordL bs).length ≤ 140737488355328) :
  Calls Tryz.prog 105 #[v] w fun e w' => ∃ a m c, e = .returned (.slice a m c) ∧ Own w' w.heap.size (.slice a m c) m (ordL bs) ∧ Below w.heap.size w w' := by
 obtain ⟨a, n, cap, rfl⟩ := rd_slice hr
 obtain ⟨hn, hle, hm, hl48⟩ := rd_lens hr
 have HN : Hid (n = bs.length) := hn
 have hol := ordL_len bs
 rw [← hn] at hol
 obtain ⟨C, hC⟩ : ∃ C, C = bs.count 0 := ⟨_, rfl⟩
 rw [← hC] at hol
 have hsum : n + C + 2 ≤ 140737488355328 := by omega
 have HOL : Hid ((ordL bs).length = n + C + 2) := hol
 clear hn hC hm hol hl
 go_enter Tryz.func105, Tryz.ntmps105
 go_wp2
 go_loopw [3, 4] (fun s i wr => ∃ t a m c, t ≤ n ∧ i = .int .i64 ((t : Nat) : Int) ∧ s = .slice a m c ∧ Own wr w.heap.size (.slice a m c) m (escL (bs.take t)) ∧ Below w.heap.size w wr) (fun _ i _ => n - (intOf i).toNat)
 case atStart => exact ⟨0, _, _, _, Nat.zero_le _, rfl, rfl, ⟨rfl, World.ownsRow_nil _ _ _ _⟩, Below.refl _ _⟩
 case round =>
  obtain ⟨t, a1, m1, c1, htl, rfl, rfl, own1, hb1⟩ := hrel
  have hs1 := hb1.size
  have hme := escL_le bs t
  have hm1 : m1 ≤ n + C := by
   rw [own1.1]
   have := HOL.out
   unfold ordL at this
   rw [List.length_append] at this
   simp at this
   omega
  clear hme
  by_cases hlt : t < n
  ·have hlt2 : (t : Int) < (n : Int) := by omega
   rcases rd_some hr with ⟨_, h0, _⟩ | ⟨b, off, rfl⟩
   ·omega
   obtain ⟨hcell0, hcl⟩ := rd_cell hr t hlt
   have hcell : wr.cell? ⟨b, off + t, none⟩ = some (.int .u8 ((bs.getD t 0 : Nat) : Int)) := by
    rw [hb1.cell (p := ⟨b, off + t, none⟩) (World.block_lt_of_cell? w _ hcell0)]; exact hcell0
   have htk := take_succ_getD bs t (by rw [← HN.out]; exact hlt)
   obtain ⟨c, hcd⟩ : ∃ c, c = bs.getD t 0 := ⟨_, rfl⟩
   rw [← hcd] at hcell hcl htk
   have hbc := World.block_lt_of_cell? wr _ hcell
   have HTK : Hid (bs.take (t + 1) = bs.take t ++ [c]) := htk
   clear hcd htk
   by_cases hc0 : c = 0
   ·subst hc0
    have HE : Hid (escL (bs.take (t + 1)) = (escL (bs.take t) ++ [0]) ++ [255]) := by
     unfold Hid; rw [HTK.out, escL_append]; simp [escL]
    go_wp2_with (first
     | (at_builtin; refine wpList_append_new rfl (.tmp 11) _ rfl w.heap.size a1 m1 c1 _ rfl own1 [_] 1 rfl [0] rfl rfl (by omega) hs1 ?_; intro a3 m3 c3 w3 own3 hb3; have hcell3 : w3.cell? ⟨b, off + t, none⟩ = some (.int .u8 ((0 : Nat) : Int)) := by (rw [(hb1.trans hb3).cell (p := ⟨b, off + t, none⟩) (World.block_lt_of_cell? w _ hcell0), ← hb1.cell (p := ⟨b, off + t, none⟩) (World.block_lt_of_cell? w _ hcell0)]; exact hcell))
     | (at_builtin; refine wpList_append_new rfl (.tmp 23) _ rfl w.heap.size a3 m3 c3 _ rfl own3 [_] 1 rfl [255] rfl rfl (own_room own3 hm1 hsum own1.1) (hb1.trans hb3).size ?_; intro a4 m4 c4 w4 own4 hb4))
    go_roundw
    case rel => exact ⟨t + 1, a4, m4, c4, by omega, by go_num, rfl, by rw [HE.out]; exact own4, (hb1.trans hb3).trans hb4⟩
    case measure => simp [intOf]; omega
   ·have HE : Hid (escL (bs.take (t + 1)) = escL (bs.take t) ++ [c]) := by
     unfold Hid; rw [HTK.out, escL_append]; simp [escL, hc0]
    have hcb : ((c : Int) == 0) = false := by simp; omega
    clear hc0
    go_wp2_with (at_builtin; refine wpList_append_new rfl (.tmp 11) _ rfl w.heap.size a1 m1 c1 _ rfl own1 [_] 1 rfl [c] rfl rfl (by omega) hs1 ?_; intro a3 m3 c3 w3 own3 hb3; have hcell3 : w3.cell? ⟨b, off + t, none⟩ = some (.int .u8 ((c : Nat) : Int)) := by (rw [(hb1.trans hb3).cell (p := ⟨b, off + t, none⟩) (World.block_lt_of_cell? w _ hcell0), ← hb1.cell (p := ⟨b, off + t, none⟩) (World.block_lt_of_cell? w _ hcell0)]; exact hcell))
    go_roundw
    case rel => exact ⟨t + 1, a3, m3, c3, by omega, by go_num, rfl, by rw [HE.out]; exact own3, hb1.trans hb3⟩
    case measure => simp [intOf]; omega
  ·have hge : (n : Int) ≤ (t : Int) := by omega
   have HE : Hid (escL (bs.take t) = escL bs) := by unfold Hid; rw [List.take_of_length_le (by rw [← HN.out]; omega)]
   go_wp2_with (at_builtin; refine wpList_append_new rfl (.tmp 26) _ rfl w.heap.size a1 m1 c1 _ rfl own1 [_, _] 2 rfl [0, 1] rfl rfl (by omega) hs1 ?_; intro a3 m3 c3 w3 own3 hb3)
   go_ret
   refine ⟨a3, m3, c3, rfl, ?_, hb1.trans hb3⟩
   unfold ordL
   rw [← HE.out]
   exact own3

theorem rord_step (c : Nat) (r acc : List Nat) (i : Nat) (hc : c ≠ 0) : rord (c :: r) acc i = rord r (acc ++ [c]) (i + 1) := by
 cases r with
 | nil => rfl
 | cons d r => rw [rord, if_pos hc]
theorem rord_nil (acc : List Nat) (i : Nat) : rord [] acc i = ([], 0, 10) := by rw [rord]
theorem rord_zero (d : Nat) (r acc : List Nat) (i : Nat) : rord (0 :: d :: r) acc i = if d = 1 then (acc, i + 2, 0) else if d = 255 then rord r (acc ++ [0]) (i + 2) else ([], 0, 11) := by
 conv => lhs; rw [rord]
 exact if_neg (by simp)

set_option maxRecDepth 100000 in
set_option maxHeartbeats 2000000 in
theorem refReadOrdered_in {v : Value} {bs : List Nat} {w : World} (hr : Rd w v bs) (k : Nat) (hk : k ≤ bs.length) (h47 : bs.length ≤ 140737488355328) :
  Calls Tryz.prog 113 #[v, .int .i64 (k : Int)] w fun e w' => ∃ a m c, e = .returned (.tuple #[.slice a m c, .int .i64 (((ordR bs k).2.1 : Nat) : Int), .int .i64 (((ordR bs k).2.2 : Nat) : Int)]) ∧ Own w' w.heap.size (.slice a m c) m (ordR bs k).1 ∧ Below w.heap.size w w' := by
 obtain ⟨a, n, cap, rfl⟩ := rd_slice hr
 obtain ⟨hn, hle, hm, hl48⟩ := rd_lens hr
 rw [← hn] at hk h47
 have HN : Hid (n = bs.length) := hn
 clear hn
 unfold maxLen at hm
 have hd : decide ((k : Int) < 0 ∨ (n : Int) < (k : Int)) = false := by simp; omega
 obtain ⟨R, hR⟩ : ∃ R, R = ordR bs k := ⟨_, rfl⟩
 rw [← hR]
 have HR : Hid (R = ordR bs k) := hR
 clear hR
 go_enter Tryz.func113, Tryz.ntmps113
 go_wp2_with fail
 refine (refOutside_any _ hl48).mono ?_
 rintro e w1 ⟨rfl, rfl⟩
 rw [hd]
 go_wp2
 go_loopw [7, 8] (fun s x wr => ∃ p a m c acc, k ≤ p ∧ p ≤ n ∧ x = .int .i64 ((p : Nat) : Int) ∧ s = .slice a m c ∧ Own wr w1.heap.size (.slice a m c) m acc ∧ m ≤ p ∧ rord (bs.drop k) [] 0 = rord (bs.drop p) acc (p - k) ∧ Below w1.heap.size w1 wr) (fun _ x _ => n - (intOf x).toNat)
 case atStart => exact ⟨k, _, _, _, [], Nat.le_refl _, hk, rfl, rfl, ⟨rfl, World.ownsRow_nil _ _ _ _⟩, Nat.zero_le _, by simp, Below.refl _ _⟩
 case round =>
  obtain ⟨p, a1, m1, c1, acc, hkp, hpn, rfl, rfl, own1, hmp, hro, hb1⟩ := hrel
  have HO : Hid (rord (bs.drop k) [] 0 = rord (bs.drop p) acc (p - k)) := hro
  clear hro
  have hs1 := hb1.size
  by_cases hlt : p < n
  ·have hlt2 : (p : Int) < (n : Int) := by omega
   rcases rd_some hr with ⟨_, h0, _⟩ | ⟨b, off, rfl⟩
   ·omega
   obtain ⟨hcell0, hcl⟩ := rd_cell hr p hlt
   have hcell : wr.cell? ⟨b, off + p, none⟩ = some (.int .u8 ((bs.getD p 0 : Nat) : Int)) := by
    rw [hb1.cell (p := ⟨b, off + p, none⟩) (World.block_lt_of_cell? w1 _ hcell0)]; exact hcell0
   have hdr := drop_cons' bs p (by rw [← HN.out]; exact hlt)
   obtain ⟨c, hcd⟩ : ∃ c, c = bs.getD p 0 := ⟨_, rfl⟩
   rw [← hcd] at hcell hcl hdr
   have HDR : Hid (bs.drop p = c :: bs.drop (p + 1)) := hdr
   clear hcd hdr hcell0
   by_cases hc0 : c = 0
   ·subst hc0
    by_cases hend : p + 1 = n
    ·have he : ((p : Int) + 1 == (n : Int)) = true := by simp; omega
     have HRR : Hid (R = ([], 0, 10)) := by
      unfold Hid
      rw [HR.out]
      unfold ordR
      rw [HO.out, HDR.out, List.drop_eq_nil_of_le (by rw [← HN.out]; omega)]
      rfl
     clear hend
     go_wp2
     go_ret3
     rw [HRR.out]
     exact ⟨_, _, _, rfl, ⟨rfl, World.ownsRow_nil _ _ _ _⟩, hb1⟩
    ·have he : ((p : Int) + 1 == (n : Int)) = false := by simp; omega
     have hlt3 : (p : Int) + 1 < (n : Int) := by omega
     have hlt4 : p + 1 < n := by omega
     obtain ⟨hcd0, hdl⟩ := rd_cell hr (p + 1) hlt4
     have hcellD : wr.cell? ⟨b, off + (p + 1), none⟩ = some (.int .u8 ((bs.getD (p + 1) 0 : Nat) : Int)) := by
      rw [hb1.cell (p := ⟨b, off + (p + 1), none⟩) (World.block_lt_of_cell? w1 _ hcd0)]; exact hcd0
     have hdr2 := drop_cons' bs (p + 1) (by rw [← HN.out]; exact hlt4)
     obtain ⟨d, hdd⟩ : ∃ d, d = bs.getD (p + 1) 0 := ⟨_, rfl⟩
     rw [← hdd] at hcellD hdl hdr2
     have HD : Hid (bs.drop p = 0 :: d :: bs.drop (p + 2)) := by unfold Hid; rw [HDR.out, hdr2]
     clear hdd hdr2 hcd0 hend
     by_cases hd1 : d = 1
     ·subst hd1
      have HRR : Hid (R = (acc, p + 2, 0)) := by
       unfold Hid
       rw [HR.out]
       unfold ordR
       rw [HO.out, HD.out, rord_zero, if_pos rfl]
       simp; omega
      go_wp2
      go_ret3
      rw [HRR.out]
      exact ⟨a1, m1, c1, by go_num, own1, hb1⟩
     ·have hdb : ((d : Int) == 1) = false := by simp; omega
      by_cases hd2 : d = 255
      ·subst hd2
       have HO2 : Hid (rord (bs.drop k) [] 0 = rord (bs.drop (p + 2)) (acc ++ [0]) (p + 2 - k)) := by
        unfold Hid
        rw [HO.out, HD.out, rord_zero, if_neg (by omega), if_pos rfl, show p - k + 2 = p + 2 - k by omega]
       go_wp2_with (at_builtin; refine wpList_append_new rfl (.tmp 50) _ rfl w1.heap.size a1 m1 c1 _ rfl own1 [_] 1 rfl [0] rfl rfl (by omega) hs1 ?_; intro a3 m3 c3 w3 own3 hb3)
       go_roundw
       case rel => exact ⟨p + 2, a3, m3, c3, acc ++ [0], by omega, by omega, by go_num, rfl, own3, by rw [own3.1, List.length_append, ← own1.1]; simp; omega, HO2.out, hb1.trans hb3⟩
       case measure => simp [intOf]; omega
      ·have hdc : ((d : Int) == 255) = false := by simp; omega
       have hde : ¬ ((d : Int) = 255) := by omega
       have HRR : Hid (R = ([], 0, 11)) := by
        unfold Hid
        rw [HR.out]
        unfold ordR
        rw [HO.out, HD.out, rord_zero, if_neg hd1, if_neg hd2]
        rfl
       go_wp2
       go_ret3
       rw [HRR.out]
       exact ⟨_, _, _, rfl, ⟨rfl, World.ownsRow_nil _ _ _ _⟩, hb1⟩
   ·have HO2 : Hid (rord (bs.drop k) [] 0 = rord (bs.drop (p + 1)) (acc ++ [c]) (p + 1 - k)) := by
     unfold Hid
     rw [HO.out, HDR.out, rord_step _ _ _ _ hc0, show p - k + 1 = p + 1 - k by omega]
    have hcb : ((c : Int) == 0) = false := by simp; omega
    have hcc : ¬ ((c : Int) = 0) := by omega
    clear hc0
    go_wp2_with (at_builtin; refine wpList_append_new rfl (.tmp 24) _ rfl w1.heap.size a1 m1 c1 _ rfl own1 [_] 1 rfl [c] rfl rfl (by omega) hs1 ?_; intro a3 m3 c3 w3 own3 hb3)
    go_roundw
    case rel => exact ⟨p + 1, a3, m3, c3, acc ++ [c], by omega, by omega, by go_num, rfl, own3, by rw [own3.1, List.length_append, ← own1.1]; simp; omega, HO2.out, hb1.trans hb3⟩
    case measure => simp [intOf]; omega
  ·have hge : (n : Int) ≤ (p : Int) := by omega
   have HRR : Hid (R = ([], 0, 10)) := by
    unfold Hid
    rw [HR.out]
    unfold ordR
    rw [HO.out, List.drop_eq_nil_of_le (by rw [← HN.out]; omega), rord_nil]
    rfl
   go_wp2
   go_ret3
   rw [HRR.out]
   exact ⟨_, _, _, rfl, ⟨rfl, World.ownsRow_nil _ _ _ _⟩, hb1⟩

end Go.Proofs.YtchebhafabhabaaGreatDoor

namespace Go.Proofs.YtchebhafabhabaaGreatDoor
open Go.RowKit
set_option linter.unusedVariables false

set_option maxRecDepth 100000 in
set_option maxHeartbeats 1000000 in
theorem refUint_any (v : Nat) (hv : v < 18446744073709551616) (w : World) :
  Calls Tryz.prog 59 #[.int .u64 (v : Int)] w fun e w' => ∃ a m c, e = .returned (.slice a m c) ∧ Own w' w.heap.size (.slice a m c) m (uintL v) ∧ Below w.heap.size w w' := by
 go_enter Tryz.func59, Tryz.ntmps59
 go_wp2
 go_loopw [0, 3] (fun x s wr => ∃ (u f : Nat) (acc : List Nat) (a : Option Addr) (m c : Nat), x = .int .u64 (u : Int) ∧ u < 128 ^ (f + 1) ∧ u < 18446744073709551616 ∧ acc.length + f = 9 ∧ uintL v = acc ++ uintF f u ∧ s = .slice a m c ∧ Own wr w.heap.size (.slice a m c) m acc ∧ m ≤ 9 ∧ Below w.heap.size w wr)
  (fun x _ _ => (intOf x).toNat)
 case atStart => exact ⟨v, 9, [], _, _, _, rfl, by omega, hv, rfl, rfl, rfl, ⟨rfl, World.ownsRow_nil _ _ _ _⟩, by omega, Below.refl _ _⟩
 case round =>
  obtain ⟨u, f, acc, a1, m1, c1, rfl, hu, hu2, hacc, hl, rfl, own1, hm9, hb⟩ := hrel
  have HL : Hid (uintL v = acc ++ uintF f u) := hl
  have HU : Hid (u < 128 ^ (f + 1)) := hu
  have HA : Hid (acc.length + f = 9) := hacc
  clear hl hu hacc
  have hbs := hb.size
  by_cases hgt : 127 < u
  ·have hgt2 : (127 : Int) < (u : Int) := by omega
   obtain ⟨f', hf'⟩ : ∃ f', f = f' + 1 := ⟨f - 1, by
    have h1 : f ≠ 0 := by
     intro h0
     have := HU.out
     rw [h0] at this
     omega
    omega⟩
   have HF : Hid (f = f' + 1) := hf'
   clear hf'
   go_wp2_with (at_builtin; refine wpList_append_new rfl (.tmp 6) _ rfl w.heap.size a1 m1 c1 _ rfl own1 [_] 1 rfl [u % 128 + 128] (by first | rfl | (simp [bv]; done) | (simp [bv]; omega)) rfl (by omega) hbs ?_; intro a3 m3 c3 w3 own3 hb3)
   go_roundw
   case rel =>
    refine ⟨u / 128, f', acc ++ [u % 128 + 128], a3, m3, c3, by go_num, ?_, by omega, by have := HA.out; have := HF.out; simp; omega, ?_, rfl, own3, by have := HA.out; have := HF.out; rw [own3.1]; simp; omega, hb.trans hb3⟩
    ·have := HU.out
     rw [HF.out, Nat.pow_succ] at this
     exact Nat.div_lt_of_lt_mul (by rw [Nat.mul_comm]; exact this)
    ·rw [HL.out, HF.out, uintF_go f' u hgt]; simp
   case measure => simp [intOf]; omega
  ·have hgt2 : (u : Int) ≤ 127 := by omega
   go_wp2_with (at_builtin; refine wpList_append_new rfl (.tmp 15) _ rfl w.heap.size a1 m1 c1 _ rfl own1 [_] 1 rfl [u] (by first | rfl | (simp [bv]; done) | (simp [bv]; omega)) rfl (by omega) hbs ?_; intro a3 m3 c3 w3 own3 hb3)
   go_ret
   refine ⟨a3, m3, c3, rfl, ?_, hb.trans hb3⟩
   rw [HL.out, uintF_stop f u (by omega)]
   exact own3

set_option maxRecDepth 100000 in
set_option maxHeartbeats 1000000 in
theorem refBytes_any {v : Value} {bs : List Nat} {w : World} (hr : Rd w v bs) (hl : bs.length ≤ 140737488355312) :
  Calls Tryz.prog 60 #[v] w fun e w' => ∃ a m c, e = .returned (.slice a m c) ∧ Own w' w.heap.size (.slice a m c) m (bytesL bs) ∧ Below w.heap.size w w' := by
 obtain ⟨a, n, cap, rfl⟩ := rd_slice hr
 obtain ⟨hn, hle, hm, hl48⟩ := rd_lens hr
 rw [← hn] at hl
 have HN : Hid (n = bs.length) := hn
 clear hn
 have hn64 : n < 18446744073709551616 := by omega
 have hem : (n : Int) % 18446744073709551616 = (n : Int) := by omega
 have HU : ∀ m : Nat, m = (uintL n).length → m ≤ 10 := fun m h => by have := (uintL_len n).2; omega
 go_enter Tryz.func60, Tryz.ntmps60
 go_wp2_with fail
 refine (refUint_any n hn64 _).mono ?_
 rintro e w1 ⟨a1, m1, c1, rfl, own1, hb1⟩
 go_wp2_with (at_builtin; refine wpList_append_at rfl _ _ rfl w.heap.size a1 m1 c1 _ rfl own1 a n cap bs rfl (hr.later hb1) (by have := HU m1 own1.1; omega) hb1.size ?_; intro a5 m5 c5 w5 own5 hb5)
 go_ret
 refine ⟨a5, m5, c5, rfl, ?_, hb1.trans hb5⟩
 unfold bytesL
 rw [← HN.out]
 exact own5

set_option maxRecDepth 100000 in
set_option maxHeartbeats 1000000 in
theorem refPart_any {b off n cap : Nat} {bs : List Nat} {w : World} (hr : Rd w (.slice (some ⟨b, off, none⟩) n cap) bs) (i j : Nat) (hij : i ≤ j) (hj : j ≤ n) (h47 : n ≤ 140737488355328) :
  Calls Tryz.prog 112 #[.slice (some ⟨b, off, none⟩) n cap, .int .i64 (i : Int), .int .i64 (j : Int)] w fun e w' => ∃ a m c, e = .returned (.slice a m c) ∧ Own w' w.heap.size (.slice a m c) m ((bs.take j).drop i) ∧ Below w.heap.size w w' := by
 obtain ⟨hn, hle, hm, hl48⟩ := rd_lens hr
 have hi0 : (0 : Int) ≤ (i : Int) := by omega
 have hij2 : (i : Int) ≤ (j : Int) := by omega
 have hjc : (j : Int) ≤ (cap : Int) := by omega
 by_cases hc : cap = i
 ·have hji : j = i := by omega
  subst hji
  have HE : Hid ((bs.take j).drop j = []) := by unfold Hid; simp
  subst hc
  clear hn
  go_enter Tryz.func112, Tryz.ntmps112
  go_wp2_with (at_builtin; refine wpList_append_at rfl _ _ rfl w.heap.size none 0 0 [] rfl ⟨rfl, World.ownsRow_nil _ _ _ _⟩ _ _ _ [] rfl (by first | exact Rd.zero _ _ | (simp; exact Rd.zero _ _)) (by omega) (Nat.le_refl _) ?_; intro a5 m5 c5 w5 own5 hb5)
  go_ret
  exact ⟨a5, m5, c5, rfl, by rw [HE.out]; simpa using own5, hb5⟩
 ·have rp := hr.sub i j hij hj (off' := off + i) (n' := j - i) (cap' := cap - i) rfl rfl rfl
  clear hn
  go_enter Tryz.func112, Tryz.ntmps112
  go_wp2_with (at_builtin; refine wpList_append_at rfl _ _ rfl w.heap.size none 0 0 [] rfl ⟨rfl, World.ownsRow_nil _ _ _ _⟩ _ _ _ _ rfl rp (by omega) (Nat.le_refl _) ?_; intro a5 m5 c5 w5 own5 hb5)
  go_ret
  exact ⟨a5, m5, c5, rfl, by simpa using own5, hb5⟩

theorem pow_le9 (i : Nat) (hi : i ≤ 9) : 128 ^ i ≤ 9223372036854775808 := Nat.le_trans (Nat.pow_le_pow_right (by omega) hi) (by decide)
theorem sum_lt (q c i : Nat) (hi : i ≤ 9) (hq : q < 128 ^ i) (h9 : i = 9 → c ≤ 1) : q + c % 128 * 128 ^ i < 18446744073709551616 := by
 by_cases h : i = 9
 ·subst h
  have := h9 rfl
  have e : (128 : Nat) ^ 9 = 9223372036854775808 := by decide
  rw [e] at hq ⊢
  have : c % 128 ≤ 1 := by omega
  omega
 ·have h1 := next_lt q c i hq
  have h2 := pow_le9 (i + 1) (by omega)
  omega
theorem wrapV (q c i U : Nat) (hi : i ≤ 9) (hU : U = 128 ^ i) (hq : q < 128 ^ i) (h9 : i = 9 → c ≤ 1) : IntKind.u64.wrap ((q : Int) + IntKind.u64.wrap ((U : Int) * ((c : Int) % 128))) = ((q + c % 128 * 128 ^ i : Nat) : Int) := by
 have e1 : (U : Int) * ((c : Int) % 128) = ((c % 128 * 128 ^ i : Nat) : Int) := by
  rw [hU, Int.natCast_mul, Int.mul_comm]; simp
 have h1 := shl_lt c i hi h9
 have h2 := sum_lt q c i hi hq h9
 rw [e1, IntKind.wrap_u64, IntKind.wrap_u64]
 omega
theorem wrapU (i U : Nat) (hi : i ≤ 8) (hU : U = 128 ^ i) : IntKind.u64.wrap ((U : Int) * 128) = ((128 ^ (i + 1) : Nat) : Int) := by
 have h := pow_le9 (i + 1) (by omega)
 have e : (U : Int) * 128 = ((128 ^ (i + 1) : Nat) : Int) := by rw [hU, Nat.pow_succ, Int.natCast_mul]; simp
 rw [e, IntKind.wrap_u64]
 omega
set_option maxHeartbeats 2000000 in
set_option maxRecDepth 100000 in
theorem refReadUint_in {v : Value} {bs : List Nat} {w : World} (hr : Rd w v bs) (k : Nat) (hk : k ≤ bs.length) :
  Calls Tryz.prog 97 #[v, .int .i64 (k : Int)] w fun e w' => e = .returned (.tuple #[.int .u64 (((uintR bs k).1 : Nat) : Int), .int .i64 (((uintR bs k).2.1 : Nat) : Int), .int .i64 (((uintR bs k).2.2 : Nat) : Int)]) ∧ w' = w := by
 obtain ⟨a, n, cap, rfl⟩ := rd_slice hr
 obtain ⟨hn, hle, hm, hl48⟩ := rd_lens hr
 rw [← hn] at hk
 have HN : Hid (n = bs.length) := hn
 clear hn
 unfold maxLen at hm
 have hk2 : (k : Int) ≤ (n : Int) := by omega
 have hk0 : (0 : Int) ≤ (k : Int) := by omega
 have hd : decide ((k : Int) < 0 ∨ (n : Int) < (k : Int)) = false := by simp; omega
 go_enter Tryz.func97, Tryz.ntmps97
 go_wp2_with fail
 refine (refOutside_any _ hl48).mono ?_
 rintro e w1 ⟨rfl, rfl⟩
 rw [hd]
 go_wp2
 go_loop [7, 8, 9, 10] (fun x u y g => ∃ i q U : Nat, i ≤ 9 ∧ k + i ≤ n ∧ x = .int .u64 (q : Int) ∧ u = .int .u64 (U : Int) ∧ U = 128 ^ i ∧ y = .int .i64 (i : Int) ∧ q < 128 ^ i ∧ ruint 9 (bs.drop k) 0 0 = ruint (9 - i) (bs.drop (k + i)) i q) (fun _ _ y _ => 10 - (intOf y).toNat)
 case atStart => exact ⟨0, 0, 1, by omega, by omega, rfl, rfl, rfl, rfl, by simp, rfl⟩
 case round =>
  obtain ⟨i, q, U, hi, hki, rfl, rfl, hU, rfl, hq, hru⟩ := hrel
  have HQ : Hid (q < 128 ^ i) := hq
  have HP : Hid (U = 128 ^ i) := hU
  have HR : Hid (ruint 9 (bs.drop k) 0 0 = ruint (9 - i) (bs.drop (k + i)) i q) := hru
  clear hq hru hU
  have hi10 : (i : Int) < 10 := by omega
  by_cases hend : k + i = n
  ·have hge : (n : Int) ≤ (k : Int) + (i : Int) := by omega
   have hdr : bs.drop (k + i) = [] := by rw [hend, HN.out]; simp
   have HU : Hid (uintR bs k = (0, 0, 10)) := by
    unfold Hid uintR; rw [HR.out, hdr]; cases (9 - i) <;> rfl
   clear hend hdr
   go_wp2
   go_ret3
   rw [HU.out]
   exact ⟨rfl, rfl⟩
  ·have hkn : (k : Int) + (i : Int) < (n : Int) := by omega
   rcases rd_some hr with ⟨_, h0, _⟩ | ⟨b, off, rfl⟩
   ·omega
   obtain ⟨hc, hcl⟩ := rd_cell hr (k + i) (by omega)
   have hdr : bs.drop (k + i) = bs.getD (k + i) 0 :: bs.drop (k + i + 1) := by
    rw [List.drop_eq_getElem_cons (by rw [← HN.out]; omega)]
    simp [List.getD, List.getElem?_eq_getElem (show k + i < bs.length by rw [← HN.out]; omega)]
   obtain ⟨c, hcd⟩ : ∃ c, c = bs.getD (k + i) 0 := ⟨_, rfl⟩
   rw [← hcd] at hc hcl hdr
   have HD : Hid (bs.drop (k + i) = c :: bs.drop (k + i + 1)) := hdr
   clear hdr hcd
   by_cases hA : i = 9 ∧ 1 < c
   ·have HU : Hid (uintR bs k = (0, 0, 13)) := by
     unfold Hid uintR; rw [HR.out, HD.out, hA.1]
     simp [ruint, hA.2]
    have e2 : ((i : Int) == 9) = true := by simp; omega
    have e3 : (1 : Int) < (c : Int) := by omega
    clear hA
    go_wp2
    go_ret3
    rw [HU.out]
    exact ⟨rfl, rfl⟩
   ·have hA9 : i = 9 → c ≤ 1 := fun h => by
     by_cases hc1 : 1 < c
     ·exact absurd ⟨h, hc1⟩ hA
     ·omega
    by_cases hB : 128 ≤ c
    ·have hi8 : i ≤ 8 := by
      by_cases h : i = 9
      ·have := hA9 h; omega
      ·omega
     have e2 : ((i : Int) == 9) = false := by simp; omega
     have e4 : (128 : Int) ≤ (c : Int) := by omega
     have hnx := next_lt q c i HQ.out
     have HV := wrapV q c i U (by omega) HP.out HQ.out hA9
     have HW := wrapU i U hi8 HP.out
     obtain ⟨V, hV⟩ : ∃ V, V = q + c % 128 * 128 ^ i := ⟨_, rfl⟩
     rw [← hV] at HV hnx
     have HV2 : Hid (V = q + c % 128 * 128 ^ i) := hV
     have HX : Hid (V < 128 ^ (i + 1)) := hnx
     have HN2 : Hid (ruint 9 (bs.drop k) 0 0 = ruint (9 - (i + 1)) (bs.drop (k + (i + 1))) (i + 1) V) := by
      unfold Hid
      rw [HR.out, HD.out, show 9 - i = (9 - (i + 1)) + 1 by omega]
      conv => lhs; unfold ruint
      rw [if_neg hA, if_pos hB, ← HV2.out]
      rfl
     have HVH : Hid (IntKind.u64.wrap ((q : Int) + IntKind.u64.wrap ((U : Int) * ((c : Int) % 128))) = ((V : Nat) : Int)) := HV
     have HWH : Hid (IntKind.u64.wrap ((U : Int) * 128) = ((128 ^ (i + 1) : Nat) : Int)) := HW
     clear hA hA9 hV hnx HV HW
     go_wp2
     go_round
     case rel => exact ⟨i + 1, V, 128 ^ (i + 1), by omega, by omega, by rw [HVH.out], by rw [HWH.out], rfl, by go_num, HX.out, HN2.out⟩
     case measure => simp [intOf]; omega
    ·have e4 : (c : Int) < 128 := by omega
     have HV := wrapV q c i U hi HP.out HQ.out hA9
     obtain ⟨V, hV⟩ : ∃ V, V = q + c % 128 * 128 ^ i := ⟨_, rfl⟩
     rw [← hV] at HV
     have HV2 : Hid (V = q + c % 128 * 128 ^ i) := hV
     have HVH : Hid (IntKind.u64.wrap ((q : Int) + IntKind.u64.wrap ((U : Int) * ((c : Int) % 128))) = ((V : Nat) : Int)) := HV
     clear hV HV
     have H9 : Hid (i = 9 → c ≤ 1) := hA9
     by_cases hC : c = 0 ∧ 0 < i
     ·have HU : Hid (uintR bs k = (0, 0, 11)) := by
       unfold Hid uintR
       have : ruint (9 - i) (c :: bs.drop (k + i + 1)) i q = (0, 0, 11) := by
        cases h9 : 9 - i with
        | zero => unfold ruint; rw [if_neg hA, if_neg hB, if_pos hC]
        | succ f => unfold ruint; rw [if_neg hA, if_neg hB, if_pos hC]
       rw [HR.out, HD.out, this]
       rfl
      have e5 : ((c : Int) == 0) = true := by simp; omega
      have e6 : (0 : Int) < (i : Int) := by omega
      have e7 : (c : Int) ≤ 1 := by omega
      clear hA hA9 hC
      go_wp2
      all_goals go_ret3
      all_goals rw [HU.out]
      all_goals exact ⟨rfl, rfl⟩
     ·have HU : Hid (uintR bs k = (V, k + i + 1, 0)) := by
       unfold Hid uintR
       have : ruint (9 - i) (c :: bs.drop (k + i + 1)) i q = (V, i + 1, 0) := by
        cases h9 : 9 - i with
        | zero => unfold ruint; rw [if_neg hA, if_neg hB, if_neg hC, HV2.out]
        | succ f => unfold ruint; rw [if_neg hA, if_neg hB, if_neg hC, HV2.out]
       rw [HR.out, HD.out, this]
       rfl
      have HE8 : Hid (((k : Int) + (i : Int) + 1) = ((k + i + 1 : Nat) : Int)) := by unfold Hid; omega
      clear hA
      by_cases h9 : i = 9
      ·have := hA9 h9
       have e2 : ((i : Int) == 9) = true := by simp; omega
       have e7 : (c : Int) ≤ 1 := by omega
       have e5 : ((c : Int) == 0) = false := by simp; omega
       have H99 : Hid (i = 9) := h9
       clear hA9 hC h9 this
       go_wp2
       all_goals go_ret3
       all_goals rw [HU.out]
       all_goals exact ⟨tup3 (by first | rfl | exact HVH.out) HE8.out, rfl⟩
      ·have e2 : ((i : Int) == 9) = false := by simp; omega
       clear hA9
       by_cases hc0 : c = 0
       ·have e5 : ((c : Int) == 0) = true := by simp; omega
        have e6 : (i : Int) ≤ 0 := by omega
        have H0 : Hid (c = 0) := hc0
        clear hC hc0
        go_wp2
        all_goals go_ret3
        all_goals rw [HU.out]
        all_goals exact ⟨tup3 (by first | rfl | exact HVH.out) HE8.out, rfl⟩
       ·have e5 : ((c : Int) == 0) = false := by simp; omega
        clear hC
        go_wp2
        all_goals go_ret3
        all_goals rw [HU.out]
        all_goals exact ⟨tup3 (by first | rfl | exact HVH.out) HE8.out, rfl⟩

end Go.Proofs.YtchebhafabhabaaGreatDoor

namespace Go.Proofs.YtchebhafabhabaaGreatDoor
open Go.RowKit
set_option linter.unusedVariables false

theorem heap_new (w : World) (o : Obj) : (w.alloc o).heap[w.heap.size]? = some o := by
 show (w.heap.push o)[w.heap.size]? = some o
 simp

theorem own_one (w : World) (B x : Nat) (hB : B ≤ w.heap.size) : Own (w.alloc (.cells #[.int .u8 (x : Int)] 5)) B (.slice (some ⟨w.heap.size, 0, none⟩) 1 1) 1 [x] := by
 refine ⟨rfl, rfl, .inr ⟨w.heap.size, 1, #[.int .u8 (x : Int)], rfl, hB, heap_new w _, Nat.le_refl _, by decide, rfl, rfl⟩⟩

end Go.Proofs.YtchebhafabhabaaGreatDoor

namespace Go.Proofs.YtchebhafabhabaaGreatDoor
open Go.RowKit
set_option linter.unusedVariables false

theorem refReadUint_at {v : Value} {bs : List Nat} {w : World} (hr : Rd w v bs) (z : Int) (k : Nat) (hz : z = (k : Int)) (hk : k ≤ bs.length) {V P E : Nat} (h : uintR bs k = (V, P, E)) :
  Calls Tryz.prog 97 #[v, .int .i64 z] w fun e w' => e = .returned (.tuple #[.int .u64 (V : Int), .int .i64 (P : Int), .int .i64 (E : Int)]) ∧ w' = w := by
 subst hz
 have := refReadUint_in hr k hk
 rw [h] at this
 exact this
theorem refPart_at {b off n cap : Nat} {bs : List Nat} {w : World} (hr : Rd w (.slice (some ⟨b, off, none⟩) n cap) bs) (x y : Int) (i j : Nat) (hx : x = (i : Int)) (hy : y = (j : Int)) (hij : i ≤ j) (hj : j ≤ n) (h47 : n ≤ 140737488355328) :
  Calls Tryz.prog 112 #[.slice (some ⟨b, off, none⟩) n cap, .int .i64 x, .int .i64 y] w fun e w' => ∃ a m c, e = .returned (.slice a m c) ∧ Own w' w.heap.size (.slice a m c) m ((bs.take j).drop i) ∧ Below w.heap.size w w' := by
 subst hx hy
 exact refPart_any hr i j hij hj h47

set_option maxRecDepth 100000 in
set_option maxHeartbeats 1000000 in
theorem refReadBytes_in {v : Value} {bs : List Nat} {w : World} (hr : Rd w v bs) (k most : Nat) (hk : k ≤ bs.length) (hmost : most < 9223372036854775808) (h47 : bs.length ≤ 140737488355328) :
  Calls Tryz.prog 98 #[v, .int .i64 (k : Int), .int .i64 (most : Int)] w fun e w' => ∃ a m c, e = .returned (.tuple #[.slice a m c, .int .i64 (((bytesR bs k most).2.1 : Nat) : Int), .int .i64 (((bytesR bs k most).2.2 : Nat) : Int)]) ∧ Own w' w.heap.size (.slice a m c) m (bytesR bs k most).1 ∧ Below w.heap.size w w' := by
 obtain ⟨a, n, cap, rfl⟩ := rd_slice hr
 obtain ⟨hn, hle, hm, hl48⟩ := rd_lens hr
 have hk' := hk
 rw [← hn] at hk h47
 have HN : Hid (n = bs.length) := hn
 clear hn
 unfold maxLen at hm
 have hk2 : (k : Int) ≤ (n : Int) := by omega
 have hk0 : (0 : Int) ≤ (k : Int) := by omega
 have hd : decide ((k : Int) < 0 ∨ (n : Int) < (k : Int)) = false := by simp; omega
 have hm0 : (0 : Int) ≤ (most : Int) := by omega
 have hemm : (most : Int) % 18446744073709551616 = (most : Int) := by omega
 obtain ⟨R, hR⟩ : ∃ R, R = uintR bs k := ⟨_, rfl⟩
 obtain ⟨V, P, E⟩ := R
 have hEb : E ≤ 13 := by
  have := ruint_e 9 (bs.drop k) 0 0
  have h2 : E = (uintR bs k).2.2 := by rw [← hR]
  rw [h2]
  exact this
 have HK : Hid (k ≤ bs.length) := hk'
 have HRR : Hid (uintR bs k = (V, P, E)) := hR.symm
 clear hk'
 by_cases hE : E = 0
 ·subst hE
  obtain ⟨hkp, hpn, hV⟩ := uintR_ok hR.symm HK.out
  rw [← HN.out] at hpn
  have hsub : ((n : Int) - (P : Int)) % 18446744073709551616 = (n : Int) - (P : Int) := by omega
  by_cases hbig : most < V
  ·have hf : bytesR bs k most = ([], 0, 13) := by unfold bytesR; rw [← hR]; simp [hbig]
   rw [hf]
   have e1 : (most : Int) < (V : Int) := by omega
   clear hf hR
   go_enter Tryz.func98, Tryz.ntmps98
   go_wp2_with fail
   refine (refOutside_any _ hl48).mono ?_
   rintro e w1 ⟨rfl, rfl⟩
   rw [hd]
   go_wp2_with fail
   refine (refReadUint_at hr _ k rfl HK.out HRR.out).mono ?_
   rintro e w2 ⟨rfl, rfl⟩
   go_wp2
   go_ret3
   exact ⟨_, _, _, rfl, ⟨rfl, World.ownsRow_nil _ _ _ _⟩, Below.refl _ _⟩
  ·have e1 : (V : Int) ≤ (most : Int) := by omega
   by_cases htorn : n < P + V
   ·have hf : bytesR bs k most = ([], 0, 10) := by unfold bytesR; rw [← hR, ← HN.out]; simp [hbig, htorn]
    rw [hf]
    have e2 : (n : Int) - (P : Int) < (V : Int) := by omega
    clear hf hR
    go_enter Tryz.func98, Tryz.ntmps98
    go_wp2_with fail
    refine (refOutside_any _ hl48).mono ?_
    rintro e w1 ⟨rfl, rfl⟩
    rw [hd]
    go_wp2_with fail
    refine (refReadUint_at hr _ k rfl HK.out HRR.out).mono ?_
    rintro e w2 ⟨rfl, rfl⟩
    go_wp2
    go_ret3
    exact ⟨_, _, _, rfl, ⟨rfl, World.ownsRow_nil _ _ _ _⟩, Below.refl _ _⟩
   ·have hf : bytesR bs k most = ((bs.drop P).take V, P + V, 0) := by unfold bytesR; rw [← hR, ← HN.out]; simp [hbig, htorn]
    rw [hf]
    have e2 : (V : Int) ≤ (n : Int) - (P : Int) := by omega
    have hVm : IntKind.i64.wrap (V : Int) = (V : Int) := by simp only [IntKind.wrap, IntKind.bits, IntKind.signed]; simp; omega
    clear hf hR
    rcases rd_some hr with ⟨h0, _⟩ | ⟨b, off, rfl⟩
    ·omega
    have eb : (bs.take (P + V)).drop P = (bs.drop P).take V := by rw [List.drop_take]; congr 1; omega
    have HEB : Hid ((bs.take (P + V)).drop P = (bs.drop P).take V) := eb
    have HPV : Hid (P + V ≤ n) := by unfold Hid; omega
    have HS : Hid ((P : Int) + (V : Int) = ((P + V : Nat) : Int)) := by unfold Hid; omega
    clear eb htorn hbig
    go_enter Tryz.func98, Tryz.ntmps98
    go_wp2_with fail
    refine (refOutside_any _ hl48).mono ?_
    rintro e w1 ⟨rfl, rfl⟩
    rw [hd]
    go_wp2_with fail
    refine (refReadUint_at hr _ k rfl HK.out HRR.out).mono ?_
    rintro e w2 ⟨rfl, rfl⟩
    go_wp2_with fail
    refine (refPart_at hr _ _ P (P + V) rfl HS.out (by omega) HPV.out h47).mono ?_
    rintro e w5 ⟨a5, m5, c5, rfl, own5, hb5⟩
    rw [HEB.out] at own5
    go_wp2
    go_ret3
    refine ⟨a5, m5, c5, ?_, own5, hb5⟩
    exact congrArg (fun z : Int => Ending.returned (Value.tuple #[Value.slice a5 m5 c5, Value.int .i64 z, Value.int .i64 0])) HS.out
 ·have hf : bytesR bs k most = ([], 0, E) := by unfold bytesR; rw [← hR]; simp [hE]
  rw [hf]
  have e1 : ((E : Int) != 0) = true := by simp; omega
  clear hf hR
  go_enter Tryz.func98, Tryz.ntmps98
  go_wp2_with fail
  refine (refOutside_any _ hl48).mono ?_
  rintro e w1 ⟨rfl, rfl⟩
  rw [hd]
  go_wp2_with fail
  refine (refReadUint_at hr _ k rfl HK.out HRR.out).mono ?_
  rintro e w2 ⟨rfl, rfl⟩
  go_wp2
  go_ret3
  exact ⟨_, _, _, rfl, ⟨rfl, World.ownsRow_nil _ _ _ _⟩, Below.refl _ _⟩

theorem own_one' (w : World) (B x : Nat) (z : Int) (hz : z = (x : Int)) (hB : B ≤ w.heap.size) : Own (w.alloc (.cells #[.int .u8 z] 5)) B (.slice (some ⟨w.heap.size, 0, none⟩) 1 1) 1 [x] := by
 subst hz; exact own_one w B x hB
theorem be8_step (V t : Nat) (h : t < 8) : (be8 V).drop (8 - (t + 1)) = [V / 256 ^ t % 256] ++ (be8 V).drop (8 - t) := by
 have hl : (be8 V).length = 8 := rfl
 rw [drop_cons' (be8 V) (8 - (t + 1)) (by rw [hl]; omega), be8_get V _ (by omega), show 8 - (t + 1) + 1 = 8 - t by omega, show 7 - (8 - (t + 1)) = t by omega, Nat.pow_mul]
 rfl

set_option maxRecDepth 100000 in
set_option maxHeartbeats 1000000 in
theorem eight_any (V : Nat) (hV : V < 18446744073709551616) (w : World) :
  Calls Tryz.prog 126 #[.int .u64 (V : Int)] w fun e w' => ∃ a m c, e = .returned (.slice a m c) ∧ Own w' w.heap.size (.slice a m c) m (be8 V) ∧ Below w.heap.size w w' := by
 have HB8 : Hid (∀ t, ((be8 V).drop (8 - t)).length ≤ t) := fun t => by rw [List.length_drop]; have : (be8 V).length = 8 := rfl; omega
 have HBY : Hid (∀ t, Bys ((be8 V).drop (8 - t))) := fun t x hx => be8_bys V x (List.mem_of_mem_drop hx)
 go_enter Tryz.func126, Tryz.ntmps126
 go_wp2
 go_loopw [0, 3, 4] (fun x s i wr => ∃ (t u : Nat) (a : Option Addr) (m c : Nat), t ≤ 8 ∧ x = .int .u64 (u : Int) ∧ u = V / 256 ^ t ∧ i = .int .i64 (t : Int) ∧ s = .slice a m c ∧ Own wr w.heap.size (.slice a m c) m ((be8 V).drop (8 - t)) ∧ Below w.heap.size w wr) (fun _ _ i _ => 8 - (intOf i).toNat)
 case atStart => exact ⟨0, V, _, _, _, by omega, rfl, by simp, rfl, rfl, ⟨rfl, World.ownsRow_nil _ _ _ _⟩, Below.refl _ _⟩
 case round =>
  obtain ⟨t, u, a1, m1, c1, ht, rfl, hu, rfl, rfl, own1, hb⟩ := hrel
  have HU : Hid (u = V / 256 ^ t) := hu
  have hu64 : u < 18446744073709551616 := by rw [hu]; exact Nat.lt_of_le_of_lt (Nat.div_le_self _ _) hV
  clear hu
  have hbs := hb.size
  have hm1 : m1 ≤ t := by rw [own1.1]; exact HB8.out t
  by_cases hlt : t < 8
  ·have hlt2 : (t : Int) < 8 := by omega
   have r1 := own1.rd (HBY.out t) (by omega)
   have HST : Hid ((be8 V).drop (8 - (t + 1)) = [u % 256] ++ (be8 V).drop (8 - t)) := by unfold Hid; rw [be8_step V t hlt, HU.out]
   go_wp2_with (at_builtin; refine wpList_append_at rfl (.tmp 12) _ rfl w.heap.size (some ⟨wr.heap.size, 0, none⟩) 1 1 [u % 256] rfl (own_one' wr w.heap.size (u % 256) _ (by first | rfl | omega | (simp; done) | (simp; omega)) hbs) a1 m1 c1 _ rfl (r1.later ((Below.refl _ _).alloc (Nat.le_refl _) _)) (by omega) (by simp; omega) ?_; intro a3 m3 c3 w3 own3 hb3)
   go_roundw
   case rel => exact ⟨t + 1, u / 256, a3, m3, c3, by omega, by go_num, by rw [HU.out, Nat.div_div_eq_div_mul, Nat.pow_succ], by go_num, rfl, by rw [HST.out]; exact own3, hb.trans (((Below.refl w.heap.size wr).alloc hbs _).trans hb3)⟩
   case measure => simp [intOf]; omega
  ·have hge : (8 : Int) ≤ (t : Int) := by omega
   have ht8 : t = 8 := by omega
   have HT : Hid (t = 8) := ht8
   clear ht8
   go_wp2
   go_ret
   refine ⟨a1, m1, c1, rfl, ?_, hb⟩
   have h := own1
   rw [HT.out] at h
   simpa using h

set_option maxRecDepth 100000 in
set_option maxHeartbeats 400000 in
theorem refRising_any (n : Nat) (hn : n < 9223372036854775808) (w : World) :
  Calls Tryz.prog 117 #[.int .i64 (n : Int)] w fun e w' => ∃ a m c, e = .returned (.tuple #[.slice a m c, .int .i64 0]) ∧ Own w' w.heap.size (.slice a m c) m (be8 n) ∧ Below w.heap.size w w' := by
 have h0 : (0 : Int) ≤ (n : Int) := by omega
 have hem : (n : Int) % 18446744073709551616 = (n : Int) := by omega
 go_enter Tryz.func117, Tryz.ntmps117
 go_wp2_with fail
 refine (eight_any n (by omega) _).mono ?_
 rintro e w1 ⟨a1, m1, c1, rfl, own1, hb1⟩
 go_wp2
 go_ret2
 exact ⟨a1, m1, c1, rfl, own1, hb1⟩
theorem refRising_at (z : Int) (n : Nat) (hz : z = (n : Int)) (hn : n < 9223372036854775808) (w : World) :
  Calls Tryz.prog 117 #[.int .i64 z] w fun e w' => ∃ a m c, e = .returned (.tuple #[.slice a m c, .int .i64 0]) ∧ Own w' w.heap.size (.slice a m c) m (be8 n) ∧ Below w.heap.size w w' := by
 subst hz; exact refRising_any n hn w
set_option maxRecDepth 100000 in
set_option maxHeartbeats 400000 in
theorem refFalling_any (n : Nat) (hn : n < 9223372036854775808) (w : World) :
  Calls Tryz.prog 106 #[.int .i64 (n : Int)] w fun e w' => ∃ a m c, e = .returned (.tuple #[.slice a m c, .int .i64 0]) ∧ Own w' w.heap.size (.slice a m c) m (be8 (9223372036854775807 - n)) ∧ Below w.heap.size w w' := by
 have h0 : (0 : Int) ≤ (n : Int) := by omega
 have h1 : (n : Int) ≤ 9223372036854775807 := by omega
 have HS : Hid ((9223372036854775807 : Int) - (n : Int) = ((9223372036854775807 - n : Nat) : Int)) := by unfold Hid; omega
 go_enter Tryz.func106, Tryz.ntmps106
 go_wp2_with fail
 refine (refRising_at _ (9223372036854775807 - n) HS.out (by omega) _).mono ?_
 rintro e w1 ⟨a1, m1, c1, rfl, own1, hb1⟩
 go_wp2
 go_ret2
 exact ⟨a1, m1, c1, rfl, own1, hb1⟩

theorem wrapN (v c : Nat) (h : v * 256 + c < 18446744073709551616) : IntKind.u64.wrap (IntKind.u64.wrap (256 * (v : Int)) + (c : Int)) = ((v * 256 + c : Nat) : Int) := by
 rw [IntKind.wrap_u64, IntKind.wrap_u64]; omega

set_option maxRecDepth 100000 in
set_option maxHeartbeats 1000000 in
theorem number_any {b off n cap : Nat} {bs : List Nat} {w : World} (hr : Rd w (.slice (some ⟨b, off, none⟩) n cap) bs) (k q : Nat) (hq : q ≤ 8) (hk : k + q ≤ n) :
  Calls Tryz.prog 133 #[.slice (some ⟨b, off, none⟩) n cap, .int .i64 (k : Int), .int .i64 (q : Int)] w fun e w' => e = .returned (.int .u64 ((num8 ((bs.drop k).take q) : Nat) : Int)) ∧ w' = w := by
 obtain ⟨hn, hle, hm, hl48⟩ := rd_lens hr
 have HN : Hid (n = bs.length) := hn
 clear hn
 obtain ⟨L, hL⟩ : ∃ L, L = (bs.drop k).take q := ⟨_, rfl⟩
 rw [← hL]
 have HLL : Hid (L.length = q) := by unfold Hid; rw [hL, List.length_take, List.length_drop, ← HN.out]; omega
 have HLB : Hid (Bys L) := by unfold Hid; rw [hL]; exact fun x hx => hr.1 x (List.mem_of_mem_drop (List.mem_of_mem_take hx))
 have HLG : Hid (∀ t, t < q → L.getD t 0 = bs.getD (k + t) 0) := fun t ht => by
  rw [hL]; simp [List.getElem?_take_of_lt ht]
 clear hL
 go_enter Tryz.func133, Tryz.ntmps133
 go_wp2
 go_loop [7, 8] (fun x y => ∃ t v : Nat, t ≤ q ∧ x = .int .u64 (v : Int) ∧ v = num8 (L.take t) ∧ y = .int .i64 (t : Int)) (fun _ y => q - (intOf y).toNat)
 case atStart => exact ⟨0, 0, by omega, rfl, rfl, rfl⟩
 case round =>
  obtain ⟨t, v, ht, rfl, hv, rfl⟩ := hrel
  have HV : Hid (v = num8 (L.take t)) := hv
  clear hv
  by_cases hlt : t < q
  ·have hlt2 : (t : Int) < (q : Int) := by omega
   obtain ⟨hc, hcl⟩ := rd_cell hr (k + t) (by omega)
   rw [← HLG.out t hlt] at hc hcl
   obtain ⟨c, hcd⟩ : ∃ c, c = L.getD t 0 := ⟨_, rfl⟩
   have HS : Hid (num8 (L.take (t + 1)) = v * 256 + c) := by unfold Hid; rw [num8_snoc L t (by rw [HLL.out]; exact hlt), ← HV.out, hcd]
   rw [← hcd] at hc hcl
   have hkt : (k : Int) + (t : Int) < (n : Int) := by omega
   have hkt0 : (0 : Int) ≤ (k : Int) + (t : Int) := by omega
   have hlt64 : v * 256 + c < 18446744073709551616 := by
    rw [← HS.out]
    have h1 := num8_lt (L.take (t + 1)) (fun x hx => HLB.out x (List.mem_of_mem_take hx))
    have h2 : (L.take (t + 1)).length ≤ 8 := by rw [List.length_take]; omega
    have h3 : 256 ^ (L.take (t + 1)).length ≤ 256 ^ 8 := Nat.pow_le_pow_right (by omega) h2
    have h4 : (256 : Nat) ^ 8 = 18446744073709551616 := by decide
    omega
   have HWN : Hid (IntKind.u64.wrap (IntKind.u64.wrap (256 * (v : Int)) + (c : Int)) = ((v * 256 + c : Nat) : Int)) := wrapN v c hlt64
   clear hcd hlt64
   go_wp2
   go_round
   case rel => exact ⟨t + 1, v * 256 + c, by omega, by rw [HWN.out], by rw [HS.out], by go_num⟩
   case measure => simp [intOf]; omega
  ·have hge : (q : Int) ≤ (t : Int) := by omega
   have HT : Hid (v = num8 L) := by
    unfold Hid
    rw [HV.out, List.take_of_length_le (by rw [HLL.out]; omega)]
   go_wp2
   go_ret
   exact ⟨congrArg (fun z : Nat => Ending.returned (Value.int .u64 (z : Int))) HT.out, rfl⟩

theorem tup3i {X X' Y Y' Z : Int} (h1 : X = X') (h2 : Y = Y') : Ending.returned (Value.tuple #[Value.int .i64 X, Value.int .i64 Y, Value.int .i64 Z]) = Ending.returned (Value.tuple #[Value.int .i64 X', Value.int .i64 Y', Value.int .i64 Z]) := by rw [h1, h2]

set_option maxRecDepth 100000 in
set_option maxHeartbeats 1000000 in
theorem refReadRising_in {v : Value} {bs : List Nat} {w : World} (hr : Rd w v bs) (k : Nat) (hk : k ≤ bs.length) :
  Calls Tryz.prog 122 #[v, .int .i64 (k : Int)] w fun e w' => e = .returned (.tuple #[.int .i64 (((riseR bs k).1 : Nat) : Int), .int .i64 (((riseR bs k).2.1 : Nat) : Int), .int .i64 (((riseR bs k).2.2 : Nat) : Int)]) ∧ w' = w := by
 obtain ⟨a, n, cap, rfl⟩ := rd_slice hr
 obtain ⟨hn, hle, hm, hl48⟩ := rd_lens hr
 rw [← hn] at hk
 have HN : Hid (n = bs.length) := hn
 clear hn
 have hd : decide ((k : Int) < 0 ∨ (n : Int) < (k : Int)) = false := by simp; omega
 by_cases hs : n < k + 8
 ·have hf : riseR bs k = (0, 0, 10) := by unfold riseR; rw [if_pos (by rw [← HN.out]; exact hs)]
  rw [hf]
  have e1 : (n : Int) - (k : Int) < 8 := by omega
  clear hf
  go_enter Tryz.func122, Tryz.ntmps122
  go_wp2_with fail
  refine (refOutside_any _ hl48).mono ?_
  rintro e w1 ⟨rfl, rfl⟩
  rw [hd]
  go_wp2
  go_ret3
  exact ⟨rfl, rfl⟩
 ·have e1 : (8 : Int) ≤ (n : Int) - (k : Int) := by omega
  rcases rd_some hr with ⟨_, h0, _⟩ | ⟨b, off, rfl⟩
  ·omega
  obtain ⟨N, hNN⟩ : ∃ N, N = num8 ((bs.drop k).take 8) := ⟨_, rfl⟩
  have HNN : Hid (num8 ((bs.drop k).take 8) = N) := hNN.symm
  by_cases hb : 9223372036854775807 < N
  ·have hf : riseR bs k = (0, 0, 13) := by unfold riseR; rw [if_neg (by rw [← HN.out]; exact hs), if_pos (by rw [← hNN]; exact hb)]
   rw [hf]
   have e2 : (9223372036854775807 : Int) < (N : Int) := by omega
   clear hf hNN
   go_enter Tryz.func122, Tryz.ntmps122
   go_wp2_with fail
   refine (refOutside_any _ hl48).mono ?_
   rintro e w1 ⟨rfl, rfl⟩
   rw [hd]
   go_wp2_with fail
   refine (number_any hr k 8 (by omega) (by omega)).mono ?_
   rintro e w2 ⟨rfl, rfl⟩
   rw [HNN.out]
   go_wp2
   go_ret3
   exact ⟨rfl, rfl⟩
  ·have hf : riseR bs k = (N, k + 8, 0) := by unfold riseR; rw [if_neg (by rw [← HN.out]; exact hs), if_neg (by rw [← hNN]; exact hb), ← hNN]
   rw [hf]
   have e2 : (N : Int) ≤ 9223372036854775807 := by omega
   have HW : Hid (IntKind.i64.wrap (N : Int) = (N : Int)) := by unfold Hid; simp only [IntKind.wrap, IntKind.bits, IntKind.signed]; simp; omega
   clear hf hNN
   go_enter Tryz.func122, Tryz.ntmps122
   go_wp2_with fail
   refine (refOutside_any _ hl48).mono ?_
   rintro e w1 ⟨rfl, rfl⟩
   rw [hd]
   go_wp2_with fail
   refine (number_any hr k 8 (by omega) (by omega)).mono ?_
   rintro e w2 ⟨rfl, rfl⟩
   rw [HNN.out]
   go_wp2
   go_ret3
   exact ⟨tup3i (by first | rfl | exact HW.out) (by omega), rfl⟩

set_option maxRecDepth 100000 in
set_option maxHeartbeats 1000000 in
theorem refReadFalling_in {v : Value} {bs : List Nat} {w : World} (hr : Rd w v bs) (k : Nat) (hk : k ≤ bs.length) :
  Calls Tryz.prog 114 #[v, .int .i64 (k : Int)] w fun e w' => e = .returned (.tuple #[.int .i64 (((fallR bs k).1 : Nat) : Int), .int .i64 (((fallR bs k).2.1 : Nat) : Int), .int .i64 (((fallR bs k).2.2 : Nat) : Int)]) ∧ w' = w := by
 have hl := riseR_lt bs k
 obtain ⟨R, hR⟩ : ∃ R, R = riseR bs k := ⟨_, rfl⟩
 have hc := refReadRising_in hr k hk
 rw [← hR] at hl hc
 unfold fallR
 rw [← hR]
 obtain ⟨V, P, E⟩ := R
 simp only at hl hc ⊢
 have HC : Hid (Calls Tryz.prog 122 #[v, .int .i64 (k : Int)] w fun e w' => e = .returned (.tuple #[.int .i64 (V : Int), .int .i64 (P : Int), .int .i64 (E : Int)]) ∧ w' = w) := hc
 clear hR hc hr
 by_cases hE : E = 0
 ·subst hE
  simp only [ne_eq, not_true, if_false]
  have hv : (V : Int) ≤ 9223372036854775807 := by omega
  have HS : Hid ((9223372036854775807 : Int) - (V : Int) = ((9223372036854775807 - V : Nat) : Int)) := by unfold Hid; omega
  clear hl
  go_enter Tryz.func114, Tryz.ntmps114
  go_wp2_with fail
  refine HC.out.mono ?_
  rintro e w1 ⟨rfl, rfl⟩
  go_wp2
  go_ret3
  exact ⟨tup3i HS.out rfl, rfl⟩
 ·rw [if_pos hE]
  have e1 : ((E : Int) != 0) = true := by simp; omega
  have e2 : ¬ ((E : Int) = 0) := by omega
  clear hl
  go_enter Tryz.func114, Tryz.ntmps114
  go_wp2_with fail
  refine HC.out.mono ?_
  rintro e w1 ⟨rfl, rfl⟩
  go_wp2
  go_ret3
  exact ⟨rfl, rfl⟩

end Go.Proofs.YtchebhafabhabaaGreatDoor

namespace Go.Proofs.YtchebhafabhabaaGreatDoor
open Go.RowKit
set_option linter.unusedVariables false

def plainD (vr vq vv : Value) : EntD := ⟨vr, 1, vq, 5, 32, 1, vv, [114], [113], [118]⟩
def zeroD : EntD := ⟨.slice none 0 0, 0, .slice none 0 0, 0, 0, 0, .slice none 0 0, [], [], []⟩
theorem rd_one {w : World} {g x : Nat} (h : w.cell? ⟨g, 0, none⟩ = some (.int .u8 (x : Int))) (hx : x < 256) : Rd w (.slice (some ⟨g, 0, none⟩) 1 1) [x] :=
 ⟨fun y hy => by simp at hy; omega, _, 1, rfl, Nat.le_refl _, by decide, by simp, .inr ⟨g, 0, rfl⟩, .inr ⟨g, 0, rfl, fun i hi => by
  obtain rfl : i = 0 := by simp at hi; omega
  simpa using h⟩⟩
theorem three (w : World) (E : EntD) : ∃ w4, w4 = (((w.alloc (.cells E.cells 40)).alloc (.cells #[.int .u8 114] 5 (1, 2))).alloc (.cells #[.int .u8 113] 5 (1, 2))).alloc (.cells #[.int .u8 118] 5 (1, 2)) ∧ EBox w4 w.heap.size E ∧
  w4.cell? ⟨w.heap.size + 1, 0, none⟩ = some (.int .u8 114) ∧ w4.cell? ⟨w.heap.size + 2, 0, none⟩ = some (.int .u8 113) ∧ w4.cell? ⟨w.heap.size + 3, 0, none⟩ = some (.int .u8 118) ∧ Below w.heap.size w w4 := by
 have A1 := (Below.refl w.heap.size w).alloc (Nat.le_refl _) (.cells E.cells 40)
 have b1 := EBox.new w E
 have s1 : (w.alloc (.cells E.cells 40)).heap.size = w.heap.size + 1 := by simp
 obtain ⟨w1, hw1⟩ : ∃ w1, w1 = w.alloc (.cells E.cells 40) := ⟨_, rfl⟩
 rw [← hw1] at A1 b1 s1
 have A2 := (Below.refl w1.heap.size w1).alloc (Nat.le_refl _) (.cells #[.int .u8 114] 5 (1, 2))
 have s2 : (w1.alloc (.cells #[.int .u8 114] 5 (1, 2))).heap.size = w.heap.size + 2 := by simp [s1]
 have c2 : (w1.alloc (.cells #[.int .u8 114] 5 (1, 2))).cell? ⟨w.heap.size + 1, 0, none⟩ = some (.int .u8 114) := by rw [Joins.cell_alloc_mark_at _ _ _ _ _ _ s1.symm]; rfl
 obtain ⟨w2, hw2⟩ : ∃ w2, w2 = w1.alloc (.cells #[.int .u8 114] 5 (1, 2)) := ⟨_, rfl⟩
 rw [← hw2] at A2 s2 c2
 have A3 := (Below.refl w2.heap.size w2).alloc (Nat.le_refl _) (.cells #[.int .u8 113] 5 (1, 2))
 have s3 : (w2.alloc (.cells #[.int .u8 113] 5 (1, 2))).heap.size = w.heap.size + 3 := by simp [s2]
 have c3 : (w2.alloc (.cells #[.int .u8 113] 5 (1, 2))).cell? ⟨w.heap.size + 2, 0, none⟩ = some (.int .u8 113) := by rw [Joins.cell_alloc_mark_at _ _ _ _ _ _ s2.symm]; rfl
 obtain ⟨w3, hw3⟩ : ∃ w3, w3 = w2.alloc (.cells #[.int .u8 113] 5 (1, 2)) := ⟨_, rfl⟩
 rw [← hw3] at A3 s3 c3
 have A4 := (Below.refl w3.heap.size w3).alloc (Nat.le_refl _) (.cells #[.int .u8 118] 5 (1, 2))
 have c4 : (w3.alloc (.cells #[.int .u8 118] 5 (1, 2))).cell? ⟨w.heap.size + 3, 0, none⟩ = some (.int .u8 118) := by rw [Joins.cell_alloc_mark_at _ _ _ _ _ _ s3.symm]; rfl
 obtain ⟨w4, hw4⟩ : ∃ w4, w4 = w3.alloc (.cells #[.int .u8 118] 5 (1, 2)) := ⟨_, rfl⟩
 rw [← hw4] at A4 c4
 refine ⟨w4, by rw [hw4, hw3, hw2, hw1], ((b1.later A2).later A3).later A4, ?_, ?_, c4, ((A1.trans (A2.mono A1.size)).trans (A3.mono (by omega))).trans (A4.mono (by omega))⟩
 ·rw [A4.cell (p := ⟨w.heap.size + 1, 0, none⟩) (by simp; omega), A3.cell (p := ⟨w.heap.size + 1, 0, none⟩) (by simp; omega)]; exact c2
 ·rw [A4.cell (p := ⟨w.heap.size + 2, 0, none⟩) (by simp; omega)]; exact c3

def plainK : List Nat := [114, 0, 1, 1, 1, 113, 0, 1, 1, 127, 255, 255, 255, 255, 255, 255, 250, 127, 255, 255, 255, 255, 255, 255, 223, 1]
set_option maxRecDepth 100000 in
theorem refOut_in (n lo hi : Int) (w : World) (h1 : lo ≤ n) (h2 : n ≤ hi) : Calls Tryz.prog 83 #[.int .i64 n, .int .i64 lo, .int .i64 hi] w fun e w' => e = .returned (.bool false) ∧ w' = w := by
 have d1 : decide (n < lo) = false := by simpa using h1
 have d2 : decide (hi < n) = false := by simpa using h2
 go_enter Tryz.func83, Tryz.ntmps83
 go_wp2
 go_ret
 exact ⟨by first | rfl | simp [d1, d2], rfl⟩

end Go.Proofs.YtchebhafabhabaaGreatDoor

namespace Go.Proofs.YtchebhafabhabaaGreatDoor
open Go.RowKit
set_option linter.unusedVariables false

theorem wpList_append_gr {w : World} {ops : Array Oper} {rest : List Oper} {o : Oper} {a : Act} {Q : Exit → Act → World → Prop} (hgd : o.guard = none) (s x : Operand)
  (ho : o.op = .call { callee := .builtin .append, args := #[s, x], argTypes := #[36, 36] })
  (B : Nat) (a0 : Option Addr) (m0 c0 : Nat) (acc : List Nat) (hs : a.eval s = .slice a0 m0 c0) (hown : Own w B (.slice a0 m0 c0) m0 acc)
  (ao : Option Addr) (m c : Nat) (bs : List Nat) (hx : a.eval x = .slice ao m c) (hrd : Rd w (.slice ao m c) bs)
  (hbytes : m0 + m ≤ 140737488355328) (hB : B ≤ w.heap.size)
  (h : ∀ a' m' c' w', Own w' B (.slice a' m' c') m' (acc ++ bs) → Below B w w' → w.grownBy w' (Value.slice a0 m0 c0).ownBlock → wpList Tryz.prog ops Q rest (a.put o.dst (.slice a' m' c')) w') : wpList Tryz.prog ops Q (o :: rest) a w := by
 obtain ⟨i0, hi, hz0, hz1, hz2⟩ := info_parts info_byte
 obtain ⟨hby, a1, c1, h2, hle, hm, hl48, hnone, hat⟩ := hrd
 simp only [Value.slice.injEq] at h2
 obtain ⟨rfl, rfl, rfl⟩ := h2
 cases ao with
 | none =>
  have hb0 : bs = [] ∧ c = 0 := by
   rcases hnone with h | ⟨b, off, h⟩
   ·exact ⟨List.eq_nil_of_length_eq_zero (by omega), h⟩
   ·cases h
  obtain ⟨rfl, rfl⟩ := hb0
  refine wpList_append_own_none hgd s x 36 ho B 5 i0 1 und_bytes hi _ _ _ hs hown.2 (by simpa using hx) ?_
  exact h _ _ _ _ (by simpa using hown) (Below.refl _ _) (World.grownBy.refl _ _)
 | some ad =>
  refine wpList_append_own _ hgd s x 36 ho B 5 i0 (.int .u8 0) 1 1 und_bytes hi hz0 hz1 hz2 rfl (by decide) _ m0 (bv acc) hs hown.2 ad bs.length c (bv bs) hx (by simp [bv]) hat.add (bv_oneCell bs) (by unfold maxLen; omega) (by omega) hB ?_
  intro v' w' h1 h2 _
  obtain ⟨a', c', rfl⟩ := own_form h1
  refine h a' _ c' w' ⟨by rw [hown.1]; simp, by simpa [bv] using h1⟩ ((Below.refl B w).grown h2 hB (fun k hk => (hown.2.lt k hk).1)) h2


theorem Own.grown {w w' : World} {B m : Nat} {v : Value} {o : Option Nat} {xs : List Nat} (h : Own w B v m xs) (k : w.grownBy w' o) (hne : ∀ g, o = some g → g < B) : Own w' B v m xs := by
 refine ⟨h.1, h.2.1, ?_⟩
 rcases h.2.2 with h2 | ⟨g, cap, cur, h3, h4, h5, h6⟩
 ·exact .inl h2
 ·refine .inr ⟨g, cap, cur, h3, h4, ?_, h6⟩
  rw [k.block g (Array.getElem?_eq_some_iff.1 h5).1 ?_]
  ·exact h5
  ·intro e
   have := hne g e.symm
   omega

end Go.Proofs.YtchebhafabhabaaGreatDoor

namespace Go.Proofs.YtchebhafabhabaaGreatDoor
open Go.RowKit
set_option linter.unusedVariables false

theorem take_eq {xs ys : List Nat} {t : Nat} (h1 : t < xs.length) (h2 : t < ys.length) (h : xs.take t = ys.take t) (he : xs.getD t 0 = ys.getD t 0) : xs.take (t + 1) = ys.take (t + 1) := by
 rw [List.take_add_one, List.take_add_one, h, List.getElem?_eq_getElem h1, List.getElem?_eq_getElem h2]
 simp [List.getD, List.getElem?_eq_getElem h1, List.getElem?_eq_getElem h2] at he
 simp [he]

end Go.Proofs.YtchebhafabhabaaGreatDoor

namespace Go.Proofs.YtchebhafabhabaaGreatDoor
open Go.RowKit
set_option linter.unusedVariables false

theorem EBox.cells7 {w : World} {g : Nat} {e : EntD} (h : EBox w g e) : w.cell? ⟨g, 0, none⟩ = some e.vr ∧ w.cell? ⟨g, 1, none⟩ = some (.int .i64 e.fam) ∧ w.cell? ⟨g, 2, none⟩ = some e.vq ∧ w.cell? ⟨g, 3, none⟩ = some (.int .i64 e.ts) ∧ w.cell? ⟨g, 4, none⟩ = some (.int .i64 e.seq) ∧ w.cell? ⟨g, 5, none⟩ = some (.int .i64 e.kind) ∧ w.cell? ⟨g, 6, none⟩ = some e.vv := ⟨h.vr, h.fam, h.vq, h.ts, h.seq, h.kind, h.vv⟩
def badD (vr vq vv : Value) (seq : Int) : EntD := ⟨vr, 1, vq, 0, seq, 1, vv, [114], [113], [118]⟩
end Go.Proofs.YtchebhafabhabaaGreatDoor

namespace Go.Proofs.YtchebhafabhabaaGreatDoor
open Go.RowKit
set_option linter.unusedVariables false

def Dif (xs ys : List Nat) (c : Int) : Prop :=
 (c = 0 ∧ xs = ys) ∨ (c = -1 ∧ ∃ p x y r s, xs = p ++ x :: r ∧ ys = p ++ y :: s ∧ x < y) ∨ (c = 1 ∧ ∃ p x y r s, xs = p ++ x :: r ∧ ys = p ++ y :: s ∧ y < x)
theorem Dif.more {xs ys : List Nat} {c : Int} (h : Dif xs ys c) (hc : c ≠ 0) (u v : List Nat) : Dif (xs ++ u) (ys ++ v) c := by
 rcases h with ⟨h, _⟩ | ⟨h, p, x, y, r, s, rfl, rfl, hx⟩ | ⟨h, p, x, y, r, s, rfl, rfl, hx⟩
 ·exact absurd h hc
 ·exact .inr (.inl ⟨h, p, x, y, r ++ u, s ++ v, by simp, by simp, hx⟩)
 ·exact .inr (.inr ⟨h, p, x, y, r ++ u, s ++ v, by simp, by simp, hx⟩)
theorem Dif.ahead {u v : List Nat} {c : Int} (h : Dif u v c) (xs : List Nat) : Dif (xs ++ u) (xs ++ v) c := by
 rcases h with ⟨h, rfl⟩ | ⟨h, p, x, y, r, s, rfl, rfl, hx⟩ | ⟨h, p, x, y, r, s, rfl, rfl, hx⟩
 ·exact .inl ⟨h, rfl⟩
 ·exact .inr (.inl ⟨h, xs ++ p, x, y, r, s, by simp, by simp, hx⟩)
 ·exact .inr (.inr ⟨h, xs ++ p, x, y, r, s, by simp, by simp, hx⟩)
theorem Dif.cons {xs ys u v : List Nat} {c : Int} {l : List Int} (h : Dif xs ys c) (k : c = 0 → Dif u v (firstNZ l)) : Dif (xs ++ u) (ys ++ v) (firstNZ (c :: l)) := by
 unfold firstNZ
 by_cases hc : c = 0
 ·rw [if_pos hc]
  rcases h with ⟨_, rfl⟩ | ⟨h, _⟩ | ⟨h, _⟩
  ·exact (k hc).ahead xs
  ·omega
  ·omega
 ·rw [if_neg hc]
  exact h.more hc u v
theorem dif_ordC : ∀ (xs ys : List Nat), (¬ xs <+: ys ∧ ¬ ys <+: xs) ∨ xs = ys → Dif xs ys (ordC xs ys)
 | [], ys, h => by
  rcases h with h | rfl
  ·exact absurd (List.nil_prefix) h.1
  ·exact .inl ⟨ordC_self _, rfl⟩
 | x :: xs, [], h => by
  rcases h with h | h
  ·exact absurd (List.nil_prefix) h.2
  ·cases h
 | x :: xs, y :: ys, h => by
  unfold ordC
  by_cases h1 : x < y
  ·rw [if_pos h1]
   exact .inr (.inl ⟨rfl, [], x, y, xs, ys, rfl, rfl, h1⟩)
  ·rw [if_neg h1]
   by_cases h2 : y < x
   ·rw [if_pos h2]
    exact .inr (.inr ⟨rfl, [], x, y, xs, ys, rfl, rfl, h2⟩)
   ·rw [if_neg h2]
    obtain rfl : x = y := by omega
    have := dif_ordC xs ys (by
     rcases h with ⟨h3, h4⟩ | h
     ·exact .inl ⟨fun k => h3 (List.cons_prefix_cons.2 ⟨rfl, k⟩), fun k => h4 (List.cons_prefix_cons.2 ⟨rfl, k⟩)⟩
     ·exact .inr (by simpa using h))
    exact this.ahead [x]
theorem dif_len {xs ys : List Nat} (h : xs.length = ys.length) : Dif xs ys (ordC xs ys) := by
 refine dif_ordC xs ys ?_
 by_cases e : xs = ys
 ·exact .inr e
 ·exact .inl ⟨fun k => e (k.eq_of_length h), fun k => e (k.eq_of_length h.symm).symm⟩
theorem dif_ordL (a b : List Nat) : Dif (ordL a) (ordL b) (ordC a b) := by
 rw [← ordC_ordL0]
 refine dif_ordC _ _ ?_
 by_cases e : ordC a b = 0
 ·exact .inr (by rw [ordC_eq a b e])
 ·have e2 : ordC b a ≠ 0 := by rw [ordC_swap]; omega
  exact .inl ⟨fun k => ordL_free a b e ⟨k.length_le, (List.prefix_iff_eq_take.1 k)⟩, fun k => ordL_free b a e2 ⟨k.length_le, (List.prefix_iff_eq_take.1 k)⟩⟩
theorem dif_one (m n : Nat) : Dif [m] [n] (cmpI (m : Int) (n : Int)) := by
 have e : ordC [m] [n] = cmpI (m : Int) (n : Int) := by
  simp only [ordC, cmpI]
  repeat' split
  all_goals omega
 rw [← e]
 exact dif_len rfl
theorem dif_fall (m n : Nat) (hm : m < 9223372036854775808) (hn : n < 9223372036854775808) : Dif (be8 (9223372036854775807 - m)) (be8 (9223372036854775807 - n)) (cmpI (n : Int) (m : Int)) := by
 have e : ordC (be8 (9223372036854775807 - m)) (be8 (9223372036854775807 - n)) = cmpI (n : Int) (m : Int) := by
  rw [ordC_be8 _ _ (by omega) (by omega)]
  simp only [cmpN, cmpI]
  repeat' split
  all_goals omega
 rw [← e]
 exact dif_len rfl

theorem keyL_parts (e : EntD) : keyL e = ordL e.row ++ ([e.fam.toNat] ++ ([mark e.kind 5] ++ ((if e.kind = 5 then [] else ordL e.qual ++ [mark e.kind 4]) ++ (be8 (9223372036854775807 - e.ts.toNat) ++ (be8 (9223372036854775807 - e.seq.toNat) ++ ([e.kind.toNat] ++ [])))))) := by
 simp [keyL]

theorem key_dif {a b : EntD} (ha : checkS a = 0) (hb : checkS b = 0) : Dif (keyL a) (keyL b) (compareS a b) := by
 obtain ⟨_, fa, _, qa, ta, sa, ka, _⟩ := check_facts ha
 obtain ⟨_, fb, _, qb, tb, sb, kb, _⟩ := check_facts hb
 rw [keyL_parts, keyL_parts]
 unfold compareS cmpsS
 have tail : Dif (be8 (9223372036854775807 - a.ts.toNat) ++ (be8 (9223372036854775807 - a.seq.toNat) ++ ([a.kind.toNat] ++ []))) (be8 (9223372036854775807 - b.ts.toNat) ++ (be8 (9223372036854775807 - b.seq.toNat) ++ ([b.kind.toNat] ++ []))) (firstNZ [cmpI b.ts a.ts, cmpI b.seq a.seq, cmpI a.kind b.kind]) := by
  have d1 := dif_fall a.ts.toNat b.ts.toNat (by omega) (by omega)
  have d2 := dif_fall a.seq.toNat b.seq.toNat (by omega) (by omega)
  have d3 := dif_one a.kind.toNat b.kind.toNat
  rw [Int.toNat_of_nonneg (by omega), Int.toNat_of_nonneg (by omega)] at d1 d2 d3
  exact d1.cons fun _ => d2.cons fun _ => d3.cons fun _ => .inl ⟨rfl, rfl⟩
 have dm := dif_one a.fam.toNat b.fam.toNat
 rw [Int.toNat_of_nonneg (by omega), Int.toNat_of_nonneg (by omega)] at dm
 refine (dif_ordL a.row b.row).cons fun _ => dm.cons fun _ => (dif_one _ _).cons fun h5 => ?_
 by_cases k5 : a.kind = 5
 ·by_cases l5 : b.kind = 5
  ·rw [if_pos k5, if_pos l5, qa k5, qb l5]
   have e : aheadS a b 4 = 0 := by simp [aheadS, mark, k5, l5, cmpI]
   rw [e]
   simpa [firstNZ, ordC] using tail
  ·exfalso
   simp [mark, k5, l5, cmpI] at h5
 ·by_cases l5 : b.kind = 5
  ·exfalso
   simp [mark, k5, l5, cmpI] at h5
  ·rw [if_neg k5, if_neg l5, List.append_assoc, List.append_assoc]
   exact (dif_ordL a.qual b.qual).cons fun _ => (dif_one _ _).cons fun _ => tail

end Go.Proofs.YtchebhafabhabaaGreatDoor
