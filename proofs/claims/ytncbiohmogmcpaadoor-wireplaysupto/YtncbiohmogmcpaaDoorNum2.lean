import Derived.Test.YtncbiohmogmcpaaDoorNumZ
import Derived.Deep.RegionHeld3
namespace Go.Proofs.YtncbiohmogmcpaaDoor
open Go.RowKit
set_option linter.unusedVariables false


set_option maxRecDepth 100000 in
set_option maxHeartbeats 4000000 in
theorem numbers_2 {vb vp : Value} {bs : List Nat} {w : World} (z nn vv : Int) (hb : Rd w vb bs) :
    Calls Tryd.prog 35 #[.agg #[.int .i64 2, vb, .int .i64 z, .int .i64 nn, .int .u64 vv, vp]] w fun e w' => e = .returned (.bool true) ∧ Below w.heap.size w w' := by
  obtain ⟨ab, nb, capb, rfl⟩ := rd_slice hb
  obtain ⟨R, hR⟩ : ∃ R, R = uintZ bs z := ⟨_, rfl⟩
  obtain ⟨V, P, E⟩ := R
  have HR : Hid (uintZ bs z = (V, P, E)) := hR.symm
  clear hR
  have A1 := (Below.refl w.heap.size w).alloc (Nat.le_refl _) (.cells #[.int .i64 2, .slice ab nb capb, .int .i64 z, .int .i64 nn, .int .u64 vv, vp] 34)
  have rb1 := hb.later A1
  go_enter Tryd.func35, Tryd.ntmps35
  go_wp2_with fail
  refine (readUint_p rb1 z HR.out).mono ?_
  rintro e w2 ⟨rfl, rfl⟩
  go_wp2_with fail
  refine (refReadUint_p rb1 z HR.out).mono ?_
  rintro e w3 ⟨rfl, rfl⟩
  go_wp2_with fail
  refine (num_any _ _).mono ?_
  rintro e w5 ⟨rfl, rfl⟩
  go_wp2
  go_ret
  exact ⟨by simp, A1⟩

set_option maxRecDepth 100000 in
set_option maxHeartbeats 4000000 in
theorem numbers_6 {vb vp : Value} {bs : List Nat} {w : World} (z nn vv : Int) (hb : Rd w vb bs) :
    Calls Tryd.prog 35 #[.agg #[.int .i64 6, vb, .int .i64 z, .int .i64 nn, .int .u64 vv, vp]] w fun e w' => e = .returned (.bool true) ∧ Below w.heap.size w w' := by
  obtain ⟨ab, nb, capb, rfl⟩ := rd_slice hb
  obtain ⟨R, hR⟩ : ∃ R, R = riseZ bs z := ⟨_, rfl⟩
  obtain ⟨V, P, E⟩ := R
  have HR : Hid (riseZ bs z = (V, P, E)) := hR.symm
  clear hR
  have A1 := (Below.refl w.heap.size w).alloc (Nat.le_refl _) (.cells #[.int .i64 6, .slice ab nb capb, .int .i64 z, .int .i64 nn, .int .u64 vv, vp] 34)
  have rb1 := hb.later A1
  go_enter Tryd.func35, Tryd.ntmps35
  go_wp2_with fail
  refine (readRising_p rb1 z HR.out).mono ?_
  rintro e w2 ⟨rfl, rfl⟩
  go_wp2_with fail
  refine (refReadRising_p rb1 z HR.out).mono ?_
  rintro e w3 ⟨rfl, rfl⟩
  go_wp2_with fail
  refine (num_any _ _).mono ?_
  rintro e w5 ⟨rfl, rfl⟩
  go_wp2
  go_ret
  exact ⟨by simp, A1⟩

set_option maxRecDepth 100000 in
set_option maxHeartbeats 4000000 in
theorem numbers_8 {vb vp : Value} {bs : List Nat} {w : World} (z nn vv : Int) (hb : Rd w vb bs) :
    Calls Tryd.prog 35 #[.agg #[.int .i64 8, vb, .int .i64 z, .int .i64 nn, .int .u64 vv, vp]] w fun e w' => e = .returned (.bool true) ∧ Below w.heap.size w w' := by
  obtain ⟨ab, nb, capb, rfl⟩ := rd_slice hb
  obtain ⟨R, hR⟩ : ∃ R, R = fallZ bs z := ⟨_, rfl⟩
  obtain ⟨V, P, E⟩ := R
  have HR : Hid (fallZ bs z = (V, P, E)) := hR.symm
  clear hR
  have A1 := (Below.refl w.heap.size w).alloc (Nat.le_refl _) (.cells #[.int .i64 8, .slice ab nb capb, .int .i64 z, .int .i64 nn, .int .u64 vv, vp] 34)
  have rb1 := hb.later A1
  go_enter Tryd.func35, Tryd.ntmps35
  go_wp2_with fail
  refine (readFalling_p rb1 z HR.out).mono ?_
  rintro e w2 ⟨rfl, rfl⟩
  go_wp2_with fail
  refine (refReadFalling_p rb1 z HR.out).mono ?_
  rintro e w3 ⟨rfl, rfl⟩
  go_wp2_with fail
  refine (num_any _ _).mono ?_
  rintro e w5 ⟨rfl, rfl⟩
  go_wp2
  go_ret
  exact ⟨by simp, A1⟩

set_option maxRecDepth 100000 in
set_option maxHeartbeats 4000000 in
theorem numbers_5 {vb vp : Value} {bs : List Nat} {w : World} (z nn vv : Int) (hb : Rd w vb bs) (hn : nn ≤ 9223372036854775807) :
    Calls Tryd.prog 35 #[.agg #[.int .i64 5, vb, .int .i64 z, .int .i64 nn, .int .u64 vv, vp]] w fun e w' => e = .returned (.bool true) ∧ Below w.heap.size w w' := by
  obtain ⟨ab, nb, capb, rfl⟩ := rd_slice hb
  have A1 := (Below.refl w.heap.size w).alloc (Nat.le_refl _) (.cells #[.int .i64 5, .slice ab nb capb, .int .i64 z, .int .i64 nn, .int .u64 vv, vp] 34)
  by_cases hneg : nn < 0
  · have HNEG : Hid (nn < 0) := hneg
    clear hneg hn
    go_enter Tryd.func35, Tryd.ntmps35
    go_wp2_with fail
    refine (rising_neg nn HNEG.out _).mono ?_
    rintro e w2 ⟨rfl, rfl⟩
    go_wp2_with fail
    refine (refRising_neg nn HNEG.out _).mono ?_
    rintro e w3 ⟨rfl, rfl⟩
    go_wp2_with fail
    refine (same_any (Rd.nil _) (Rd.nil _)).mono ?_
    rintro e w4 ⟨rfl, rfl⟩
    rw [decide_eq_true rfl]
    go_wp2_with fail
    refine (num_any _ _).mono ?_
    rintro e w5 ⟨rfl, rfl⟩
    go_wp2
    go_ret
    exact ⟨by simp, A1⟩
  · obtain ⟨n, rfl⟩ := Int.eq_ofNat_of_zero_le (show 0 ≤ nn by omega)
    have HN : Hid (n < 9223372036854775808) := by unfold Hid; omega
    clear hneg hn
    have bx1 : Hid (Box (w.alloc (.cells #[.int .i64 5, .slice ab nb capb, .int .i64 z, .int .i64 (Int.ofNat n), .int .u64 vv, vp] 34)) w.heap.size 5 (.slice ab nb capb) z (Int.ofNat n) vv vp) := Box.new w 5 (.slice ab nb capb) z _ vv vp
    have HL : Hid (Bys (be8 n) ∧ (be8 n).length ≤ 281474976710656) := ⟨be8_bys _, by simp [be8]⟩
    go_enter Tryd.func35, Tryd.ntmps35
    go_wp2_with fail
    refine (rising_any n HN.out _).mono ?_
    rintro e w2 ⟨a2, m2, c2, rfl, own2, hb2⟩
    have bx2 : Hid (Box w2 w.heap.size 5 (.slice ab nb capb) z (Int.ofNat n) vv vp) := bx1.out.later hb2
    have hxn := bx2.out.n
    have r2 := own2.rd HL.out.1 (by rw [own2.1]; exact HL.out.2)
    have B2 := A1.trans (hb2.mono A1.size)
    clear hb2 own2 bx1
    go_wp2_with fail
    refine (refRising_any n HN.out _).mono ?_
    rintro e w3 ⟨a3, m3, c3, rfl, own3, hb3⟩
    have r3 := own3.rd HL.out.1 (by rw [own3.1]; exact HL.out.2)
    have r23 := r2.later hb3
    have B3 := B2.trans (hb3.mono B2.size)
    clear hb3 own3 r2 hxn
    go_wp2_with fail
    refine (same_any r23 r3).mono ?_
    rintro e w4 ⟨rfl, rfl⟩
    rw [decide_eq_true rfl]
    go_wp2_with fail
    refine (num_any _ _).mono ?_
    rintro e w5 ⟨rfl, rfl⟩
    go_wp2
    go_ret
    exact ⟨by simp, B3⟩

set_option maxRecDepth 100000 in
set_option maxHeartbeats 4000000 in
theorem numbers_7 {vb vp : Value} {bs : List Nat} {w : World} (z nn vv : Int) (hb : Rd w vb bs) (hn : nn ≤ 9223372036854775807) :
    Calls Tryd.prog 35 #[.agg #[.int .i64 7, vb, .int .i64 z, .int .i64 nn, .int .u64 vv, vp]] w fun e w' => e = .returned (.bool true) ∧ Below w.heap.size w w' := by
  obtain ⟨ab, nb, capb, rfl⟩ := rd_slice hb
  have A1 := (Below.refl w.heap.size w).alloc (Nat.le_refl _) (.cells #[.int .i64 7, .slice ab nb capb, .int .i64 z, .int .i64 nn, .int .u64 vv, vp] 34)
  by_cases hneg : nn < 0
  · have HNEG : Hid (nn < 0) := hneg
    clear hneg hn
    go_enter Tryd.func35, Tryd.ntmps35
    go_wp2_with fail
    refine (falling_neg nn HNEG.out _).mono ?_
    rintro e w2 ⟨rfl, rfl⟩
    go_wp2_with fail
    refine (refFalling_neg nn HNEG.out _).mono ?_
    rintro e w3 ⟨rfl, rfl⟩
    go_wp2_with fail
    refine (same_any (Rd.nil _) (Rd.nil _)).mono ?_
    rintro e w4 ⟨rfl, rfl⟩
    rw [decide_eq_true rfl]
    go_wp2_with fail
    refine (num_any _ _).mono ?_
    rintro e w5 ⟨rfl, rfl⟩
    go_wp2
    go_ret
    exact ⟨by simp, A1⟩
  · obtain ⟨n, rfl⟩ := Int.eq_ofNat_of_zero_le (show 0 ≤ nn by omega)
    have HN : Hid (n < 9223372036854775808) := by unfold Hid; omega
    clear hneg hn
    have bx1 : Hid (Box (w.alloc (.cells #[.int .i64 7, .slice ab nb capb, .int .i64 z, .int .i64 (Int.ofNat n), .int .u64 vv, vp] 34)) w.heap.size 7 (.slice ab nb capb) z (Int.ofNat n) vv vp) := Box.new w 7 (.slice ab nb capb) z _ vv vp
    have HL : Hid (Bys (be8 (9223372036854775807 - n)) ∧ (be8 (9223372036854775807 - n)).length ≤ 281474976710656) := ⟨be8_bys _, by simp [be8]⟩
    go_enter Tryd.func35, Tryd.ntmps35
    go_wp2_with fail
    refine (falling_any n HN.out _).mono ?_
    rintro e w2 ⟨a2, m2, c2, rfl, own2, hb2⟩
    have bx2 : Hid (Box w2 w.heap.size 7 (.slice ab nb capb) z (Int.ofNat n) vv vp) := bx1.out.later hb2
    have hxn := bx2.out.n
    have r2 := own2.rd HL.out.1 (by rw [own2.1]; exact HL.out.2)
    have B2 := A1.trans (hb2.mono A1.size)
    clear hb2 own2 bx1
    go_wp2_with fail
    refine (refFalling_any n HN.out _).mono ?_
    rintro e w3 ⟨a3, m3, c3, rfl, own3, hb3⟩
    have r3 := own3.rd HL.out.1 (by rw [own3.1]; exact HL.out.2)
    have r23 := r2.later hb3
    have B3 := B2.trans (hb3.mono B2.size)
    clear hb3 own3 r2 hxn
    go_wp2_with fail
    refine (same_any r23 r3).mono ?_
    rintro e w4 ⟨rfl, rfl⟩
    rw [decide_eq_true rfl]
    go_wp2_with fail
    refine (num_any _ _).mono ?_
    rintro e w5 ⟨rfl, rfl⟩
    go_wp2
    go_ret
    exact ⟨by simp, B3⟩

end Go.Proofs.YtncbiohmogmcpaaDoor
