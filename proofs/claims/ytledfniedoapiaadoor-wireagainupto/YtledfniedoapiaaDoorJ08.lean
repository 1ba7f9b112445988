import Derived.Test.YtledfniedoapiaaDoorJ07
import Derived.Deep.RegionHeld3
import Derived.Test.YtledfniedoapiaaDoorJ06
namespace Go.Proofs.YtledfniedoapiaaDoor
open Go.RowKit
set_option linter.unusedVariables false

def frameZ (bs : List Nat) (z : Int) : List Nat × Nat × Nat := if z < 0 ∨ (bs.length : Int) < z then ([], 0, 1) else frameR bs z.toNat
theorem frameR_ok (bs : List Nat) (k : Nat) (hb : Bys bs) : Bys (frameR bs k).1 ∧ (frameR bs k).1.length ≤ bs.length := by
  have hn : Bys ([] : List Nat) ∧ ([] : List Nat).length ≤ bs.length := ⟨fun x hx => by simp at hx, by simp⟩
  unfold frameR
  split
  · exact hn
  · split
    · exact hn
    · split
      · exact hn
      · exact ⟨fun x hx => hb x (List.mem_of_mem_drop (List.mem_of_mem_take hx)), by simp; omega⟩
theorem readFrame_p {v : Value} {bs : List Nat} {w : World} (hr : Rd w v bs) (ht : Tab w) (z : Int) (h47 : bs.length ≤ 140737488355000) {L : List Nat} {P E : Nat} (h : frameZ bs z = (L, P, E)) :
    Calls Tryd.prog 24 #[v, .int .i64 z] w fun e w' => ∃ a m c, e = .returned (.tuple #[.slice a m c, .int .i64 (P : Int), .int .i64 (E : Int)]) ∧ Rd w' (.slice a m c) L ∧ Below w.heap.size w w' := by
  rcases place bs z with h0 | ⟨k, rfl, hk, h0⟩
  · rw [frameZ, if_pos h0] at h
    cases h
    refine (readFrame_out hr z h0).mono ?_
    rintro e w' ⟨rfl, rfl⟩
    exact ⟨none, 0, 0, rfl, Rd.nil _, Below.refl _ _⟩
  · have hok := frameR_ok bs k hr.1
    rw [frameZ, if_neg h0, Int.toNat_natCast] at h
    refine (readFrame_in hr ht k hk (by omega)).mono ?_
    rintro e w' ⟨a, m, c, rfl, own, hb⟩
    rw [h] at own hok ⊢
    exact ⟨a, m, c, rfl, own.rd hok.1 (by rw [own.1]; have := hok.2; simp at this; omega), hb⟩
theorem refReadFrame_p {v : Value} {bs : List Nat} {w : World} (hr : Rd w v bs) (ht : Tab w) (z : Int) (h47 : bs.length ≤ 140737488355000) {L : List Nat} {P E : Nat} (h : frameZ bs z = (L, P, E)) :
    Calls Tryd.prog 41 #[v, .int .i64 z] w fun e w' => ∃ a m c, e = .returned (.tuple #[.slice a m c, .int .i64 (P : Int), .int .i64 (E : Int)]) ∧ Rd w' (.slice a m c) L ∧ Below w.heap.size w w' := by
  rcases place bs z with h0 | ⟨k, rfl, hk, h0⟩
  · rw [frameZ, if_pos h0] at h
    cases h
    refine (refReadFrame_out hr z h0).mono ?_
    rintro e w' ⟨rfl, rfl⟩
    exact ⟨none, 0, 0, rfl, Rd.nil _, Below.refl _ _⟩
  · have hok := frameR_ok bs k hr.1
    rw [frameZ, if_neg h0, Int.toNat_natCast] at h
    refine (refReadFrame_in hr k hk (by omega)).mono ?_
    rintro e w' ⟨a, m, c, rfl, own, hb⟩
    rw [h] at own hok ⊢
    exact ⟨a, m, c, rfl, own.rd hok.1 (by rw [own.1]; have := hok.2; simp at this; omega), hb⟩

set_option maxRecDepth 100000 in
set_option maxHeartbeats 4000000 in
theorem strings_13 {vb vp : Value} {bs : List Nat} {w : World} (z nn vv : Int) (hb : Rd w vb bs) (ht : Tab w) (hl : bs.length ≤ 1048576) :
    Calls Tryd.prog 32 #[.agg #[.int .i64 13, vb, .int .i64 z, .int .i64 nn, .int .u64 vv, vp]] w fun e w' => e = .returned (.bool true) ∧ Below w.heap.size w w' := by
  obtain ⟨ab, nb, capb, rfl⟩ := rd_slice hb
  obtain ⟨R, hR⟩ : ∃ R, R = frameZ bs z := ⟨_, rfl⟩
  obtain ⟨L, P, E⟩ := R
  have HR : Hid (frameZ bs z = (L, P, E)) := hR.symm
  have HL : Hid (bs.length ≤ 1048576) := hl
  clear hR hl
  have A1 := (Below.refl w.heap.size w).alloc (Nat.le_refl _) (.cells #[.int .i64 13, .slice ab nb capb, .int .i64 z, .int .i64 nn, .int .u64 vv, vp] 38)
  have bx1 : Hid (Box (w.alloc (.cells #[.int .i64 13, .slice ab nb capb, .int .i64 z, .int .i64 nn, .int .u64 vv, vp] 38)) w.heap.size 13 (.slice ab nb capb) z nn vv vp) := Box.new w 13 (.slice ab nb capb) z nn vv vp
  have rb1 := hb.later A1
  have ht1 := ht.later A1
  go_enter Tryd.func32, Tryd.ntmps32
  go_wp2_with fail
  refine (readFrame_p rb1 ht1 z (by have := HL.out; omega) HR.out).mono ?_
  rintro e w2 ⟨a2, m2, c2, rfl, r2, hb2⟩
  have bx2 : Hid (Box w2 w.heap.size 13 (.slice ab nb capb) z nn vv vp) := bx1.out.later hb2
  have hxb := bx2.out.b
  have hxz := bx2.out.z
  have B2 := A1.trans (hb2.mono A1.size)
  have rb2 := hb.later B2
  have ht2 := ht.later B2
  clear hb2 A1 bx1 rb1 ht1
  go_wp2_with fail
  refine (refReadFrame_p rb2 ht2 z (by have := HL.out; omega) HR.out).mono ?_
  rintro e w3 ⟨a3, m3, c3, rfl, r3, hb3⟩
  have r23 := r2.later hb3
  have B3 := B2.trans (hb3.mono B2.size)
  clear hb3 B2 bx2 hxb hxz r2
  go_wp2_with fail
  refine (same_any r23 r3).mono ?_
  rintro e w4 ⟨rfl, rfl⟩
  rw [decide_eq_true rfl]
  go_wp2_with fail
  refine (num_any _ _).mono ?_
  rintro e w5 ⟨rfl, rfl⟩
  go_wp2
  go_ret
  exact ⟨by simp, B3⟩

set_option maxRecDepth 100000 in
set_option maxHeartbeats 4000000 in
theorem strings_12 {vb vp : Value} {bs : List Nat} {w : World} (z nn vv : Int) (hb : Rd w vb bs) (ht : Tab w) (hl : bs.length ≤ 1048576) :
    Calls Tryd.prog 32 #[.agg #[.int .i64 12, vb, .int .i64 z, .int .i64 nn, .int .u64 vv, vp]] w fun e w' => e = .returned (.bool true) ∧ Below w.heap.size w w' := by
  obtain ⟨ab, nb, capb, rfl⟩ := rd_slice hb
  have HL : Hid (bs.length ≤ 1048576) := hl
  have HF : Hid (Bys (frameL bs) ∧ (frameL bs).length ≤ 281474976710656) := ⟨frameL_bys bs hb.1 hl, by unfold frameL; simp [be4, le4]; omega⟩
  clear hl
  have A1 := (Below.refl w.heap.size w).alloc (Nat.le_refl _) (.cells #[.int .i64 12, .slice ab nb capb, .int .i64 z, .int .i64 nn, .int .u64 vv, vp] 38)
  have bx1 : Hid (Box (w.alloc (.cells #[.int .i64 12, .slice ab nb capb, .int .i64 z, .int .i64 nn, .int .u64 vv, vp] 38)) w.heap.size 12 (.slice ab nb capb) z nn vv vp) := Box.new w 12 (.slice ab nb capb) z nn vv vp
  have rb1 := hb.later A1
  have ht1 := ht.later A1
  go_enter Tryd.func32, Tryd.ntmps32
  go_wp2_with fail
  refine (frame_ok rb1 ht1 HL.out).mono ?_
  rintro e w2 ⟨a2, m2, c2, rfl, own2, hb2⟩
  have bx2 : Hid (Box w2 w.heap.size 12 (.slice ab nb capb) z nn vv vp) := bx1.out.later hb2
  have hxb := bx2.out.b
  have B2 := A1.trans (hb2.mono A1.size)
  have rb2 := hb.later B2
  have r2 := own2.rd HF.out.1 (by rw [own2.1]; exact HF.out.2)
  clear hb2 A1 bx1 rb1 ht1 own2
  go_wp2_with fail
  refine (refFrame_ok rb2 HL.out).mono ?_
  rintro e w3 ⟨a3, m3, c3, rfl, own3, hb3⟩
  have r3 := own3.rd HF.out.1 (by rw [own3.1]; exact HF.out.2)
  have r23 := r2.later hb3
  have B3 := B2.trans (hb3.mono B2.size)
  clear hb3 B2 bx2 hxb r2 own3
  go_wp2_with fail
  refine (same_any r23 r3).mono ?_
  rintro e w4 ⟨rfl, rfl⟩
  rw [decide_eq_true rfl]
  go_wp2_with fail
  refine (num_any _ _).mono ?_
  rintro e w5 ⟨rfl, rfl⟩
  go_wp2
  go_ret
  exact ⟨by simp, B3⟩

set_option maxRecDepth 100000 in
set_option maxHeartbeats 4000000 in
theorem strings_11 {vb vp : Value} {bs : List Nat} {ps : List (List Nat)} {w : World} (z nn vv : Int) (hb : Rd w vb bs) (hp : RdP w vp ps) (ht : Tab w) :
    Calls Tryd.prog 32 #[.agg #[.int .i64 11, vb, .int .i64 z, .int .i64 nn, .int .u64 vv, vp]] w fun e w' => e = .returned (.bool true) ∧ Below w.heap.size w w' := by
  obtain ⟨ab, nb, capb, rfl⟩ := rd_slice hb
  obtain ⟨ap, np, cp, rfl⟩ : ∃ a n c, vp = .slice a n c := by obtain ⟨_, a, c, h, _⟩ := hp; exact ⟨_, _, _, h⟩
  have A1 : Below w.heap.size w (w.alloc (.cells #[.int .i64 11, .slice ab nb capb, .int .i64 z, .int .i64 nn, .int .u64 vv, .slice ap np cp] 38)) := (Below.refl w.heap.size w).alloc (Nat.le_refl _) _
  have bx1 : Hid (Box (w.alloc (.cells #[.int .i64 11, .slice ab nb capb, .int .i64 z, .int .i64 nn, .int .u64 vv, .slice ap np cp] 38)) w.heap.size 11 (.slice ab nb capb) z nn vv (.slice ap np cp)) := Box.new w 11 (.slice ab nb capb) z nn vv (.slice ap np cp)
  have BD : Below w.heap.size w (w.alloc (.cells #[.int .i64 11, .slice ab nb capb, .int .i64 z, .int .i64 nn, .int .u64 vv, .slice ap np cp] 38)).drew := A1.trans ((Below.refl _ _).drew.mono A1.size)
  have hcD : (w.alloc (.cells #[.int .i64 11, .slice ab nb capb, .int .i64 z, .int .i64 nn, .int .u64 vv, .slice ap np cp] 38)).drew.cell? ⟨w.heap.size, 5, none⟩ = some (.slice ap np cp) := (show Box (w.alloc (.cells #[.int .i64 11, .slice ab nb capb, .int .i64 z, .int .i64 nn, .int .u64 vv, .slice ap np cp] 38)).drew w.heap.size 11 (.slice ab nb capb) z nn vv (.slice ap np cp) from bx1.out).p
  have HP : Hid (RdP w (.slice ap np cp) ps) := hp
  clear hb hp
  obtain ⟨S, hS⟩ : ∃ S, S = sumL ps.flatten := ⟨_, rfl⟩
  have c1 := sum_any (HP.out.later BD) (ht.later BD)
  have c2 := refSum_any (HP.out.later BD)
  rw [← hS] at c1 c2
  have HC1 : Hid (Calls Tryd.prog 53 #[.slice ap np cp] (w.alloc (.cells #[.int .i64 11, .slice ab nb capb, .int .i64 z, .int .i64 nn, .int .u64 vv, .slice ap np cp] 38)).drew fun e w' => e = .returned (.int .u32 (S : Int)) ∧ w' = (w.alloc (.cells #[.int .i64 11, .slice ab nb capb, .int .i64 z, .int .i64 nn, .int .u64 vv, .slice ap np cp] 38)).drew) := c1
  have HC2 : Hid (Calls Tryd.prog 61 #[.slice ap np cp] (w.alloc (.cells #[.int .i64 11, .slice ab nb capb, .int .i64 z, .int .i64 nn, .int .u64 vv, .slice ap np cp] 38)).drew fun e w' => e = .returned (.int .u32 (S : Int)) ∧ w' = (w.alloc (.cells #[.int .i64 11, .slice ab nb capb, .int .i64 z, .int .i64 nn, .int .u64 vv, .slice ap np cp] 38)).drew) := c2
  clear c1 c2 hS
  go_enter Tryd.func32, Tryd.ntmps32
  go_wp2_with fail
  go_region_held3 (fun wx => wx.cell? ⟨w.heap.size, 5, none⟩ = some (.slice ap np cp) ∧ Below w.heap.size w wx) (first | exact ⟨hcD, BD⟩ | assumption) (first | (go_at_call 53; refine HC1.out.mono ?_; rintro e wa ⟨rfl, rfl⟩) | (go_at_call 61; refine HC2.out.mono ?_; rintro e wb ⟨rfl, rfl⟩))
  go_wp2
  go_ret
  exact ⟨by simp, BD⟩

end Go.Proofs.YtledfniedoapiaaDoor

namespace Go.Proofs.YtledfniedoapiaaDoor
open Go.RowKit
set_option linter.unusedVariables false

def uintZ (bs : List Nat) (z : Int) : Nat × Nat × Nat := if z < 0 ∨ (bs.length : Int) < z then (0, 0, 1) else uintR bs z.toNat
def riseZ (bs : List Nat) (z : Int) : Nat × Nat × Nat := if z < 0 ∨ (bs.length : Int) < z then (0, 0, 1) else riseR bs z.toNat
def fallZ (bs : List Nat) (z : Int) : Nat × Nat × Nat := if z < 0 ∨ (bs.length : Int) < z then (0, 0, 1) else fallR bs z.toNat
def bytesZ (bs : List Nat) (z most : Int) : List Nat × Nat × Nat := if z < 0 ∨ (bs.length : Int) < z ∨ most < 0 then ([], 0, 1) else bytesR bs z.toNat most.toNat

theorem readUint_p {v : Value} {bs : List Nat} {w : World} (hr : Rd w v bs) (z : Int) {V P E : Nat} (h : uintZ bs z = (V, P, E)) :
    Calls Tryd.prog 26 #[v, .int .i64 z] w fun e w' => e = .returned (.tuple #[.int .u64 (V : Int), .int .i64 (P : Int), .int .i64 (E : Int)]) ∧ w' = w := by
  rcases place bs z with h0 | ⟨k, rfl, hk, h0⟩
  · rw [uintZ, if_pos h0] at h
    cases h
    refine (readUint_out hr z h0).mono ?_
    rintro e w' ⟨rfl, rfl⟩
    exact ⟨rfl, rfl⟩
  · rw [uintZ, if_neg h0, Int.toNat_natCast] at h
    refine (readUint_in hr k hk).mono ?_
    rintro e w' ⟨rfl, rfl⟩
    rw [h]
    exact ⟨rfl, rfl⟩
theorem refReadUint_p {v : Value} {bs : List Nat} {w : World} (hr : Rd w v bs) (z : Int) {V P E : Nat} (h : uintZ bs z = (V, P, E)) :
    Calls Tryd.prog 56 #[v, .int .i64 z] w fun e w' => e = .returned (.tuple #[.int .u64 (V : Int), .int .i64 (P : Int), .int .i64 (E : Int)]) ∧ w' = w := by
  rcases place bs z with h0 | ⟨k, rfl, hk, h0⟩
  · rw [uintZ, if_pos h0] at h
    cases h
    refine (refReadUint_out hr z h0).mono ?_
    rintro e w' ⟨rfl, rfl⟩
    exact ⟨rfl, rfl⟩
  · rw [uintZ, if_neg h0, Int.toNat_natCast] at h
    refine (refReadUint_in hr k hk).mono ?_
    rintro e w' ⟨rfl, rfl⟩
    rw [h]
    exact ⟨rfl, rfl⟩
theorem readRising_p {v : Value} {bs : List Nat} {w : World} (hr : Rd w v bs) (z : Int) {V P E : Nat} (h : riseZ bs z = (V, P, E)) :
    Calls Tryd.prog 57 #[v, .int .i64 z] w fun e w' => e = .returned (.tuple #[.int .i64 (V : Int), .int .i64 (P : Int), .int .i64 (E : Int)]) ∧ w' = w := by
  rcases place bs z with h0 | ⟨k, rfl, hk, h0⟩
  · rw [riseZ, if_pos h0] at h
    cases h
    refine (readRising_out hr z h0).mono ?_
    rintro e w' ⟨rfl, rfl⟩
    exact ⟨rfl, rfl⟩
  · rw [riseZ, if_neg h0, Int.toNat_natCast] at h
    refine (readRising_in hr k hk).mono ?_
    rintro e w' ⟨rfl, rfl⟩
    rw [h]
    exact ⟨rfl, rfl⟩
theorem refReadRising_p {v : Value} {bs : List Nat} {w : World} (hr : Rd w v bs) (z : Int) {V P E : Nat} (h : riseZ bs z = (V, P, E)) :
    Calls Tryd.prog 58 #[v, .int .i64 z] w fun e w' => e = .returned (.tuple #[.int .i64 (V : Int), .int .i64 (P : Int), .int .i64 (E : Int)]) ∧ w' = w := by
  rcases place bs z with h0 | ⟨k, rfl, hk, h0⟩
  · rw [riseZ, if_pos h0] at h
    cases h
    refine (refReadRising_out hr z h0).mono ?_
    rintro e w' ⟨rfl, rfl⟩
    exact ⟨rfl, rfl⟩
  · rw [riseZ, if_neg h0, Int.toNat_natCast] at h
    refine (refReadRising_in hr k hk).mono ?_
    rintro e w' ⟨rfl, rfl⟩
    rw [h]
    exact ⟨rfl, rfl⟩
theorem readFalling_p {v : Value} {bs : List Nat} {w : World} (hr : Rd w v bs) (z : Int) {V P E : Nat} (h : fallZ bs z = (V, P, E)) :
    Calls Tryd.prog 59 #[v, .int .i64 z] w fun e w' => e = .returned (.tuple #[.int .i64 (V : Int), .int .i64 (P : Int), .int .i64 (E : Int)]) ∧ w' = w := by
  rcases place bs z with h0 | ⟨k, rfl, hk, h0⟩
  · rw [fallZ, if_pos h0] at h
    cases h
    refine (readFalling_out hr z h0).mono ?_
    rintro e w' ⟨rfl, rfl⟩
    exact ⟨rfl, rfl⟩
  · rw [fallZ, if_neg h0, Int.toNat_natCast] at h
    refine (readFalling_in hr k hk).mono ?_
    rintro e w' ⟨rfl, rfl⟩
    rw [h]
    exact ⟨rfl, rfl⟩
theorem refReadFalling_p {v : Value} {bs : List Nat} {w : World} (hr : Rd w v bs) (z : Int) {V P E : Nat} (h : fallZ bs z = (V, P, E)) :
    Calls Tryd.prog 60 #[v, .int .i64 z] w fun e w' => e = .returned (.tuple #[.int .i64 (V : Int), .int .i64 (P : Int), .int .i64 (E : Int)]) ∧ w' = w := by
  rcases place bs z with h0 | ⟨k, rfl, hk, h0⟩
  · rw [fallZ, if_pos h0] at h
    cases h
    refine (refReadFalling_out hr z h0).mono ?_
    rintro e w' ⟨rfl, rfl⟩
    exact ⟨rfl, rfl⟩
  · rw [fallZ, if_neg h0, Int.toNat_natCast] at h
    refine (refReadFalling_in hr k hk).mono ?_
    rintro e w' ⟨rfl, rfl⟩
    rw [h]
    exact ⟨rfl, rfl⟩
theorem bytesR_ok (bs : List Nat) (k most : Nat) (hb : Bys bs) : Bys (bytesR bs k most).1 ∧ (bytesR bs k most).1.length ≤ bs.length := by
  have hn : Bys ([] : List Nat) ∧ ([] : List Nat).length ≤ bs.length := ⟨fun x hx => by simp at hx, by simp⟩
  unfold bytesR
  split
  · exact hn
  · split
    · exact hn
    · split
      · exact hn
      · exact ⟨fun x hx => hb x (List.mem_of_mem_drop (List.mem_of_mem_take hx)), by simp; omega⟩
theorem readBytes_p {v : Value} {bs : List Nat} {w : World} (hr : Rd w v bs) (z most : Int) (hm : most ≤ 9223372036854775807) (h47 : bs.length ≤ 140737488355328) {L : List Nat} {P E : Nat} (h : bytesZ bs z most = (L, P, E)) :
    Calls Tryd.prog 22 #[v, .int .i64 z, .int .i64 most] w fun e w' => ∃ a m c, e = .returned (.tuple #[.slice a m c, .int .i64 (P : Int), .int .i64 (E : Int)]) ∧ Rd w' (.slice a m c) L ∧ Below w.heap.size w w' := by
  by_cases h0 : z < 0 ∨ (bs.length : Int) < z ∨ most < 0
  · rw [bytesZ, if_pos h0] at h
    cases h
    refine (readBytes_out hr z most h0).mono ?_
    rintro e w' ⟨rfl, rfl⟩
    exact ⟨none, 0, 0, rfl, Rd.nil _, Below.refl _ _⟩
  · rw [bytesZ, if_neg h0] at h
    obtain ⟨k, rfl⟩ := Int.eq_ofNat_of_zero_le (show 0 ≤ z by omega)
    obtain ⟨q, rfl⟩ := Int.eq_ofNat_of_zero_le (show 0 ≤ most by omega)
    simp only [Int.toNat_natCast] at h
    have hok := bytesR_ok bs k q hr.1
    refine (readBytes_in hr k q (by omega) (by omega) h47).mono ?_
    rintro e w' ⟨a, m, c, rfl, own, hb⟩
    rw [h] at own hok ⊢
    exact ⟨a, m, c, rfl, own.rd hok.1 (by rw [own.1]; have := hok.2; simp at this; omega), hb⟩
theorem refReadBytes_p {v : Value} {bs : List Nat} {w : World} (hr : Rd w v bs) (z most : Int) (hm : most ≤ 9223372036854775807) (h47 : bs.length ≤ 140737488355328) {L : List Nat} {P E : Nat} (h : bytesZ bs z most = (L, P, E)) :
    Calls Tryd.prog 39 #[v, .int .i64 z, .int .i64 most] w fun e w' => ∃ a m c, e = .returned (.tuple #[.slice a m c, .int .i64 (P : Int), .int .i64 (E : Int)]) ∧ Rd w' (.slice a m c) L ∧ Below w.heap.size w w' := by
  by_cases h0 : z < 0 ∨ (bs.length : Int) < z ∨ most < 0
  · rw [bytesZ, if_pos h0] at h
    cases h
    refine (refReadBytes_out hr z most h0).mono ?_
    rintro e w' ⟨rfl, rfl⟩
    exact ⟨none, 0, 0, rfl, Rd.nil _, Below.refl _ _⟩
  · rw [bytesZ, if_neg h0] at h
    obtain ⟨k, rfl⟩ := Int.eq_ofNat_of_zero_le (show 0 ≤ z by omega)
    obtain ⟨q, rfl⟩ := Int.eq_ofNat_of_zero_le (show 0 ≤ most by omega)
    simp only [Int.toNat_natCast] at h
    have hok := bytesR_ok bs k q hr.1
    refine (refReadBytes_in hr k q (by omega) (by omega) h47).mono ?_
    rintro e w' ⟨a, m, c, rfl, own, hb⟩
    rw [h] at own hok ⊢
    exact ⟨a, m, c, rfl, own.rd hok.1 (by rw [own.1]; have := hok.2; simp at this; omega), hb⟩

end Go.Proofs.YtledfniedoapiaaDoor
