import Derived.Test.YtledfniedoapiaaDoorJ11
import Derived.Deep.RegionHeld3
import Derived.Lib.Hide
import Derived.Deep.DeepCutAuto
namespace Go.Proofs.YtledfniedoapiaaDoor
open Go.RowKit
set_option linter.unusedVariables false

theorem refReadBytes_o {v : Value} {bs : List Nat} {w : World} (hr : Rd w v bs) (z most : Int) (hm : most ≤ 9223372036854775807) (h47 : bs.length ≤ 140737488355328) {L : List Nat} {P E : Nat} (h : bytesZ bs z most = (L, P, E)) :
    Calls Tryd.prog 39 #[v, .int .i64 z, .int .i64 most] w fun e w' => ∃ a m c, e = .returned (.tuple #[.slice a m c, .int .i64 (P : Int), .int .i64 (E : Int)]) ∧ Own w' w.heap.size (.slice a m c) m L ∧ Below w.heap.size w w' := by
  by_cases h0 : z < 0 ∨ (bs.length : Int) < z ∨ most < 0
  · rw [bytesZ, if_pos h0] at h
    cases h
    refine (refReadBytes_out hr z most h0).mono ?_
    rintro e w' ⟨rfl, rfl⟩
    exact ⟨none, 0, 0, rfl, own_nil _ _, Below.refl _ _⟩
  · rw [bytesZ, if_neg h0] at h
    obtain ⟨k, rfl⟩ : ∃ k : Nat, z = (k : Int) := ⟨z.toNat, by omega⟩
    obtain ⟨q, rfl⟩ : ∃ q : Nat, most = (q : Int) := ⟨most.toNat, by omega⟩
    rw [Int.toNat_natCast, Int.toNat_natCast] at h
    refine (refReadBytes_in hr k q (by omega) (by omega) (by omega)).mono ?_
    rintro e w' ⟨a, m, c, rfl, own, hb⟩
    rw [h] at own ⊢
    exact ⟨a, m, c, rfl, own, hb⟩
theorem refReadOrdered_o {v : Value} {bs : List Nat} {w : World} (hr : Rd w v bs) (z : Int) (h47 : bs.length ≤ 140737488355328) {L : List Nat} {P E : Nat} (h : ordZ bs z = (L, P, E)) :
    Calls Tryd.prog 40 #[v, .int .i64 z] w fun e w' => ∃ a m c, e = .returned (.tuple #[.slice a m c, .int .i64 (P : Int), .int .i64 (E : Int)]) ∧ Own w' w.heap.size (.slice a m c) m L ∧ Below w.heap.size w w' := by
  rcases place bs z with h0 | ⟨k, rfl, hk, h0⟩
  · rw [ordZ, if_pos h0] at h
    cases h
    refine (refReadOrdered_out hr z h0).mono ?_
    rintro e w' ⟨rfl, rfl⟩
    exact ⟨none, 0, 0, rfl, own_nil _ _, Below.refl _ _⟩
  · rw [ordZ, if_neg h0, Int.toNat_natCast] at h
    refine (refReadOrdered_in hr k hk (by omega)).mono ?_
    rintro e w' ⟨a, m, c, rfl, own, hb⟩
    rw [h] at own ⊢
    exact ⟨a, m, c, rfl, own, hb⟩
theorem refReadFrame_o {v : Value} {bs : List Nat} {w : World} (hr : Rd w v bs) (z : Int) (h47 : bs.length ≤ 140737488355000) {L : List Nat} {P E : Nat} (h : frameZ bs z = (L, P, E)) :
    Calls Tryd.prog 41 #[v, .int .i64 z] w fun e w' => ∃ a m c, e = .returned (.tuple #[.slice a m c, .int .i64 (P : Int), .int .i64 (E : Int)]) ∧ Own w' w.heap.size (.slice a m c) m L ∧ Below w.heap.size w w' := by
  rcases place bs z with h0 | ⟨k, rfl, hk, h0⟩
  · rw [frameZ, if_pos h0] at h
    cases h
    refine (refReadFrame_out hr z h0).mono ?_
    rintro e w' ⟨rfl, rfl⟩
    exact ⟨none, 0, 0, rfl, own_nil _ _, Below.refl _ _⟩
  · rw [frameZ, if_neg h0, Int.toNat_natCast] at h
    refine (refReadFrame_in hr k hk (by omega)).mono ?_
    rintro e w' ⟨a, m, c, rfl, own, hb⟩
    rw [h] at own ⊢
    exact ⟨a, m, c, rfl, own, hb⟩
theorem refFalling_at (z : Int) (n : Nat) (hz : z = (n : Int)) (hn : n < 9223372036854775808) (w : World) :
    Calls Tryd.prog 34 #[.int .i64 z] w fun e w' => ∃ a m c, e = .returned (.tuple #[.slice a m c, .int .i64 0]) ∧ Own w' w.heap.size (.slice a m c) m (be8 (9223372036854775807 - n)) ∧ Below w.heap.size w w' := by
  subst hz; exact refFalling_any n hn w
theorem perm3 {α : Type} (a b c : α) (l : List α) : (a :: b :: c :: l).Perm (c :: a :: b :: l) := by
  have h1 : (a :: b :: c :: l).Perm (a :: c :: b :: l) := .cons _ (.swap _ _ _)
  exact h1.trans (.swap _ _ _)
theorem rows_made {w : World} {us : List Value} (k : Nat) (hk : k = us.length) (h1 : ∀ u ∈ us, u.oneCell' = true) (hm : us.length ≤ 1000) : RowS (w.alloc (.cells us.toArray 23)) w.heap.size (.slice (some ⟨w.heap.size, 0, none⟩) k k) k us := by
  refine ⟨hk, h1, by rw [hk]; simp, .inr ⟨w.heap.size, k, us.toArray, rfl, Nat.le_refl _, heap_new w _, Nat.le_refl _, by unfold maxLen; omega, by rw [hk]; simp, by rw [hk]; simp⟩⟩

set_option maxRecDepth 100000 in
set_option maxHeartbeats 4000000 in
/-- The same lists. -/
theorem sameAll_any {va vb : Value} {ps : List (List Nat)} {w : World} (ra : RdP w va ps) (rb : RdP w vb ps) (hl : ps.length ≤ 1000) :
    Calls Tryd.prog 11 #[va, vb] w fun e w' => e = .returned (.bool true) ∧ Below w.heap.size w w' := by
  obtain ⟨_, a, ca, rfl, pa⟩ := ra
  obtain ⟨_, b, cb, rfl, pb⟩ := rb
  obtain ⟨n, hn⟩ : ∃ n, n = ps.length := ⟨_, rfl⟩
  have HP := Lib.hid (And.intro pa pb)
  rw [← hn] at hl ⊢
  have HN := Lib.hid hn
  clear pa pb hn
  go_enter Tryd.func11, Tryd.ntmps11
  go_wp2
  go_loopw [5] (fun i wr => ∃ t : Nat, t ≤ n ∧ i = .int .i64 (t : Int) ∧ Hid (Below w.heap.size w wr)) (fun i _ => n - (intOf i).toNat)
  case atStart => exact ⟨0, by omega, rfl, Below.refl _ _⟩
  case round =>
    obtain ⟨t, ht, rfl, hb⟩ := hrel
    by_cases hlt : t < n
    · have hlt2 : (t : Int) < (n : Int) := by omega
      have ht0 : (0 : Int) ≤ (t : Int) := by omega
      have hne : ps ≠ [] := fun h => by have := HN.out; rw [h] at this; simp at this; omega
      obtain ⟨p1, p2⟩ := HP.out
      rcases p1 with p1 | ⟨ba, oa, rfl, ka⟩
      · exact absurd p1 hne
      rcases p2 with p2 | ⟨bb, ob, rfl, kb⟩
      · exact absurd p2 hne
      obtain ⟨ua, c1, r1⟩ := ka t (by rw [← HN.out]; exact hlt)
      obtain ⟨ub, c2, r2⟩ := kb t (by rw [← HN.out]; exact hlt)
      obtain ⟨xa, ya, za, rfl⟩ := rd_slice r1
      obtain ⟨xb, yb, zb, rfl⟩ := rd_slice r2
      have e1 : wr.cell? ⟨ba, oa + t, none⟩ = some (.slice xa ya za) := by rw [hb.out.cell (World.block_lt_of_cell? _ _ c1)]; exact c1
      have e2 : wr.cell? ⟨bb, ob + t, none⟩ = some (.slice xb yb zb) := by rw [hb.out.cell (World.block_lt_of_cell? _ _ c2)]; exact c2
      have HRR := Lib.hid (And.intro (r1.later hb.out) (r2.later hb.out))
      clear ka kb c1 c2 r1 r2 hne
      have D0 : Below wr.heap.size wr wr.drew := (Below.refl _ _).drew
      have KS : Hid (∀ wx, Below wr.heap.size wr wx → wx.cell? ⟨ba, oa + t, none⟩ = some (.slice xa ya za) ∧ wx.cell? ⟨bb, ob + t, none⟩ = some (.slice xb yb zb)) := fun wx h => ⟨by rw [h.cell (World.block_lt_of_cell? _ _ e1)]; exact e1, by rw [h.cell (World.block_lt_of_cell? _ _ e2)]; exact e2⟩
      go_wp2_with fail
      go_region_held3 (fun wx => wx.cell? ⟨ba, oa + t, none⟩ = some (.slice xa ya za) ∧ wx.cell? ⟨bb, ob + t, none⟩ = some (.slice xb yb zb)) (first | exact KS.out _ D0 | exact KS.out _ DD1)
        (first | (go_at_call 12; refine (alike_same (HRR.out.1.later D0) (HRR.out.2.later D0)).mono ?_; rintro x1 w1 ⟨rfl, hb1⟩; have DD1 := D0.trans (hb1.mono D0.size)))
      have HB1 := Lib.hid (hb.out.trans (DD1.mono hb.out.size))
      clear KS D0 DD1 hb1 HRR e1 e2
      go_wp2
      go_roundw
      case rel => exact ⟨t + 1, by omega, by go_num, HB1⟩
      case measure => simp [intOf]; omega
    · have hge : (n : Int) ≤ (t : Int) := by omega
      go_wp2
      go_ret
      exact ⟨rfl, hb.out⟩

set_option maxRecDepth 100000 in
set_option maxHeartbeats 4000000 in
/-- What the document wants. -/
theorem wants_any (v : Nat) (hv : v < 18446744073709551616) {vb va : Value} {bs all : List Nat} {z : Int} {w : World} (hb : Rd w vb bs) (ha : Rd w va all) (hl : bs.length ≤ 1048576) (hla : all.length ≤ 1048576) :
    Calls Tryd.prog 18 #[.int .u64 (v : Int), vb, va, .int .i64 z] w fun e w' => ∃ u, e = .returned u ∧ Nine w' w.heap.size u (ansL v bs all z) ∧ Below w.heap.size w w' := by
  obtain ⟨i0, hi, hz0, hz1, hz2⟩ := info_parts info_row
  obtain ⟨ab, nb, cb, rfl⟩ := rd_slice hb
  obtain ⟨aa, na, ca, rfl⟩ := rd_slice ha
  have hnb := (rd_lens hb).1
  have hna := (rd_lens ha).1
  have HNA := Lib.hid hna
  have HBA := Lib.hid (And.intro hb ha)
  have hnb2 : (nb : Int) ≤ 1048576 := by rw [hnb]; omega
  have hna2 : (na : Int) ≤ 1048576 := by rw [hna]; omega
  have HZ := Lib.hid (zok ha.1 z (all.length : Int))
  have HDIV : Hid (((v : Int) / 2) = ((v / 2 : Nat) : Int)) := by unfold Hid; omega
  have HV2 : Hid (v / 2 < 9223372036854775808) := by unfold Hid; omega
  have HORD : Hid ((ordL bs).length ≤ 4194304) := by
    unfold Hid
    have h1 := ordL_len bs
    have h2 : bs.count 0 ≤ bs.length := List.count_le_length
    omega
  have hbys := hb.1
  have HBL : Hid (Bys (bytesL bs) ∧ (bytesL bs).length ≤ 4194304) := by
    refine ⟨(uintL_bys _ (by omega)).app hbys, ?_⟩
    have h2 := uintL_len bs.length
    unfold bytesL
    rw [List.length_append]
    omega
  have HFL : Hid (Bys (frameL bs) ∧ (frameL bs).length ≤ 4194304) := ⟨frameL_bys bs hbys hl, by simp [frameL, be4, le4]; omega⟩
  have HBY := Lib.hid hbys
  clear hb ha hna hnb hbys
  go_enter Tryd.func18, Tryd.ntmps18
  go_wp2_with fail
  refine (refRising_at _ (v / 2) HDIV.out HV2.out _).mono ?_
  rintro e w1 ⟨a1, m1, c1, rfl, own1, hb1⟩
  have P1 := Lib.hid (show Pend w1 w.heap.size [] [(.slice a1 m1 c1, be8 (v / 2))] from (Pend.nil w w.heap.size []).push0 hb1 (own_len own1) (Nat.le_refl _) (be8_bys _) (by simp [be8]))
  have B1 := Lib.hid hb1
  clear own1 hb1
  go_wp2_with fail
  refine (refFalling_at _ (v / 2) HDIV.out HV2.out _).mono ?_
  rintro e w2 ⟨a2, m2, c2, rfl, own2, hb2⟩
  have P2 := Lib.hid (show Pend w2 w.heap.size [] [(.slice a1 m1 c1, be8 (v / 2)), (.slice a2 m2 c2, be8 (9223372036854775807 - v / 2))] from P1.out.push0 hb2 (own_len own2) B1.out.size (be8_bys _) (by simp [be8]))
  have B2 := Lib.hid (B1.out.trans (hb2.mono B1.out.size))
  clear own2 hb2 P1 B1
  go_wp2_with fail
  refine (refUint_any v hv _).mono ?_
  rintro e w3 ⟨a3, m3, c3, rfl, own3, hb3⟩
  have P3 := Lib.hid (show Pend w3 w.heap.size [] [(.slice a1 m1 c1, be8 (v / 2)), (.slice a2 m2 c2, be8 (9223372036854775807 - v / 2)), (.slice a3 m3 c3, uintL v)] from P2.out.push0 hb3 (own_len own3) B2.out.size (uintL_bys v hv) (by have := (uintL_len v).2; omega))
  have B3 := Lib.hid (B2.out.trans (hb3.mono B2.out.size))
  clear own3 hb3 P2 B2
  go_wp2_with fail
  refine (refBytes_any (HBA.out.1.later B3.out) (by omega)).mono ?_
  rintro e w4 ⟨a4, m4, c4, rfl, own4, hb4⟩
  have P4 := Lib.hid (show Pend w4 w.heap.size [] [(.slice a1 m1 c1, be8 (v / 2)), (.slice a2 m2 c2, be8 (9223372036854775807 - v / 2)), (.slice a3 m3 c3, uintL v), (.slice a4 m4 c4, bytesL bs)] from P3.out.push0 hb4 (own_len own4) B3.out.size HBL.out.1 HBL.out.2)
  have B4 := Lib.hid (B3.out.trans (hb4.mono B3.out.size))
  clear own4 hb4 P3 B3
  go_wp2_with fail
  refine (refOrdered_any (HBA.out.1.later B4.out) (by have := HORD.out; omega)).mono ?_
  rintro e w5 ⟨a5, m5, c5, rfl, own5, hb5⟩
  have P5 := Lib.hid (show Pend w5 w.heap.size [] [(.slice a1 m1 c1, be8 (v / 2)), (.slice a2 m2 c2, be8 (9223372036854775807 - v / 2)), (.slice a3 m3 c3, uintL v), (.slice a4 m4 c4, bytesL bs), (.slice a5 m5 c5, ordL bs)] from P4.out.push0 hb5 (own_len own5) B4.out.size (ordL_bys bs HBY.out) HORD.out)
  have B5 := Lib.hid (B4.out.trans (hb5.mono B4.out.size))
  clear own5 hb5 P4 B4
  go_wp2_with fail
  have A5 := (Below.refl w5.heap.size w5).alloc (Nat.le_refl _) (.cells #[.slice a3 m3 c3, .slice a1 m1 c1, .slice a2 m2 c2, .slice a4 m4 c4, .slice a5 m5 c5] 23)
  have R5 : RowS (w5.alloc (.cells #[.slice a3 m3 c3, .slice a1 m1 c1, .slice a2 m2 c2, .slice a4 m4 c4, .slice a5 m5 c5] 23)) w5.heap.size (.slice (some ⟨w5.heap.size, 0, none⟩) 5 5) 5 [.slice a3 m3 c3, .slice a1 m1 c1, .slice a2 m2 c2, .slice a4 m4 c4, .slice a5 m5 c5] := rows_made 5 rfl (by intro u hu; simp at hu; rcases hu with rfl | rfl | rfl | rfl | rfl <;> rfl) (by simp)
  have B5a := B5.out.trans (A5.mono B5.out.size)
  refine (refFrame_ok (HBA.out.1.later B5a) hl).mono ?_
  rintro e w6 ⟨a6, m6, c6, rfl, own6, hb6⟩
  have P6 := Lib.hid (show Pend w6 w.heap.size [] [(.slice a1 m1 c1, be8 (v / 2)), (.slice a2 m2 c2, be8 (9223372036854775807 - v / 2)), (.slice a3 m3 c3, uintL v), (.slice a4 m4 c4, bytesL bs), (.slice a5 m5 c5, ordL bs), (.slice a6 m6 c6, frameL bs)] from (P5.out.later A5).push0 hb6 (own_len own6) B5a.size HFL.out.1 HFL.out.2)
  have R6 := R5.later hb6
  have W6 := Lib.hid (A5.trans (hb6.mono A5.size))
  have hB6 : w5.heap.size ≤ w6.heap.size := W6.out.size
  clear own6 hb6 P5 R5 A5 B5a
  go_upto_region 8 with (at_builtin; refine wpList_append_one rfl _ _ rfl w5.heap.size _ 5 5 _ rfl R6 (.slice a6 m6 c6) rfl rfl (by omega) hB6 ?_; intro a7 c7 w7 r7 g7 b7; have R7 := Lib.hid r7; have G7 := Lib.hid g7; clear r7 g7 b7)
  have PW := Lib.hid (P6.out.far G7.out (fun p hp x hx => row_own R6 (P6.out.own p hp).1 hx))
  have W7 : Hid (Below w5.heap.size w5 w7) := by
    refine ⟨G7.out.os.trans W6.out.os, G7.out.tape.trans W6.out.tape, G7.out.output.trans W6.out.output, Nat.le_trans W6.out.size G7.out.size, fun i hi => ?_⟩
    rw [G7.out.block i (by omega) (fun e => by have := (R6.2.2.lt i e.symm).1; omega), W6.out.block i hi]
  have HR6 : Hid (RowS w7 w5.heap.size (.slice a7 6 c7) 6 [.slice a3 m3 c3, .slice a1 m1 c1, .slice a2 m2 c2, .slice a4 m4 c4, .slice a5 m5 c5, .slice a6 m6 c6] ∧ Below w5.heap.size w5 w7) := ⟨R7.out, W7.out⟩
  have HBr : Hid (Below w.heap.size w w7) := B5.out.trans (W7.out.mono B5.out.size)
  clear P6 R6 R7 G7 W6 W7 hB6
  obtain ⟨⟨L1, Q1, E1⟩, q1⟩ : ∃ q, bytesZ all z (all.length : Int) = q := ⟨_, rfl⟩
  obtain ⟨⟨L2, Q2, E2⟩, q2⟩ : ∃ q, ordZ all z = q := ⟨_, rfl⟩
  obtain ⟨⟨L3, Q3, E3⟩, q3⟩ : ∃ q, frameZ all z = q := ⟨_, rfl⟩
  have HQ := Lib.hid (And.intro q1 (And.intro q2 q3))
  have HZ2 : Hid ((Bys L1 ∧ L1.length ≤ all.length) ∧ (Bys L2 ∧ L2.length ≤ all.length) ∧ (Bys L3 ∧ L3.length ≤ all.length)) := by
    have h := HZ.out
    rw [q1, q2, q3] at h
    exact h
  rw [← HNA.out] at q1
  have CK : Hid (Calls _ _ _ _ _) := refReadBytes_o (HBA.out.2.later HBr.out) z (na : Int) (by omega) (by omega) q1
  clear q1 q2 q3 HZ
  go_wp2_with fail
  refine CK.out.mono ?_
  rintro r w8 ⟨x1, y1, z1, rfl, ox, hb2⟩
  have hsr := HBr.out.size
  have P2 := Lib.hid (PW.out.push0 hb2 (own_len ox) hsr HZ2.out.1.1 (by have := HZ2.out.1.2; omega))
  have R2 := Lib.hid (HR6.out.1.later hb2)
  have B2 := Lib.hid (HBr.out.trans (hb2.mono hsr))
  have W2 := Lib.hid (HR6.out.2.trans (hb2.mono HR6.out.2.size))
  clear CK ox hb2 PW HR6 HBr hsr
  have CK : Hid (Calls _ _ _ _ _) := refReadOrdered_o (HBA.out.2.later B2.out) z (by omega) HQ.out.2.1
  go_wp2_with fail
  refine CK.out.mono ?_
  rintro r w9 ⟨x2, y2, z2, rfl, ox, hb3⟩
  have hsr := B2.out.size
  have P3 := Lib.hid (P2.out.push0 hb3 (own_len ox) hsr HZ2.out.2.1.1 (by have := HZ2.out.2.1.2; omega))
  have R3 := Lib.hid (R2.out.later hb3)
  have B3 := Lib.hid (B2.out.trans (hb3.mono hsr))
  have W3 := Lib.hid (W2.out.trans (hb3.mono W2.out.size))
  clear CK ox hb3 P2 R2 B2 W2 hsr
  have CK : Hid (Calls _ _ _ _ _) := refReadFrame_o (HBA.out.2.later B3.out) z (by omega) HQ.out.2.2
  go_wp2_with fail
  refine CK.out.mono ?_
  rintro r w10 ⟨x3, y3, z3, rfl, ox, hb4⟩
  have hsr := B3.out.size
  have P4 := Lib.hid (P3.out.push0 hb4 (own_len ox) hsr HZ2.out.2.2.1 (by have := HZ2.out.2.2.2; omega))
  have R4 := R3.out.later hb4
  have W4 := Lib.hid (W3.out.trans (hb4.mono W3.out.size))
  have hw14 : w5.heap.size ≤ w10.heap.size := W4.out.size
  clear CK ox hb4 P3 R3 B3 W3 hsr
  go_wp2_with (at_builtin; refine wpList_append_own _ rfl _ _ 25 rfl w5.heap.size 23 i0 (.slice none 0 0) 1 24 und_parts hi hz0 hz1 hz2 rfl (by decide) _ 6 _ rfl (R4.2.2.alloc _) ⟨w10.heap.size, 0, none⟩ 3 3 [.slice x1 y1 z1, .slice x2 y2 z2, .slice x3 y3 z3] rfl rfl (news_new _ _ _) ?c2 ?c3 ?c4 ?c5 ?_)
  case c2 => intro u hu; simp at hu; rcases hu with rfl | rfl | rfl <;> rfl
  case c3 => unfold maxLen; omega
  case c4 => omega
  case c5 => simp; omega
  intro v' w11 hown8 hgrow _
  obtain ⟨a8, c8, rfl⟩ := rows_form hown8
  have A4 := (Below.refl w10.heap.size w10).alloc (Nat.le_refl _) (.cells ([.slice x1 y1 z1, .slice x2 y2 z2, .slice x3 y3 z3] : List Value).toArray 23)
  have R4a := R4.later A4
  have P4a := P4.out.later A4
  have P8 := P4a.far hgrow (fun p hp x hx => row_own R4a (P4a.own p hp).1 hx)
  have B8 : Below w5.heap.size w5 w11 := (W4.out.trans (A4.mono W4.out.size)).grown hgrow (by simp; omega) (fun k hk => (R4a.2.2.lt k hk).1)
  have F8 : Hid (Nine w11 w.heap.size (.slice a8 9 c8) (ansL v bs all z) ∧ Below w.heap.size w w11) := by
    have hone : ∀ x ∈ [.slice a3 m3 c3, .slice a1 m1 c1, .slice a2 m2 c2, .slice a4 m4 c4, .slice a5 m5 c5, .slice a6 m6 c6] ++ ([.slice x1 y1 z1, .slice x2 y2 z2, .slice x3 y3 z3] : List Value), x.oneCell' = true := by
      intro x hx
      rcases List.mem_append.1 hx with hx | hx
      · exact R4.2.1 x hx
      · simp at hx; rcases hx with rfl | rfl | rfl <;> rfl
    refine ⟨⟨a8, c8, _, rfl, RowS.mono (v := .slice a8 9 c8) ⟨rfl, hone, hown8⟩ B5.out.size, ?_⟩, B5.out.trans (B8.mono B5.out.size)⟩
    unfold ansL
    rw [HQ.out.1, HQ.out.2.1, HQ.out.2.2]
    exact P8.perm (perm3 _ _ _ _)
  clear hown8 hgrow P8 B8 P4a R4a A4 R4 P4
  go_wp2
  go_ret
  exact ⟨_, rfl, F8.out⟩

end Go.Proofs.YtledfniedoapiaaDoor

namespace Go.Proofs.YtledfniedoapiaaDoor
open Go.RowKit
set_option linter.unusedVariables false

/-- The mark of the item of that number. -/
def mkOf (j : Nat) : Nat := 1 + j % 250
theorem mkOf_lt (j : Nat) : mkOf j < 256 := by unfold mkOf; omega
/-- What the items hold now. -/
def Now (w : World) (B : Nat) (its : List Item) (cur : Nat → List Nat) : Prop := ∀ j p, its[j]? = some p → Own w B p.l p.xs.length (cur j)
theorem ap_ne {its : List Item} {i j : Nat} {p q : Item} (h : (its.map Item.l).Pairwise AP) (hne : i ≠ j) (hp : its[i]? = some p) (hq : its[j]? = some q) : AP p.l q.l := by
  obtain ⟨hi, rfl⟩ := List.getElem?_eq_some_iff.1 hp
  obtain ⟨hj, rfl⟩ := List.getElem?_eq_some_iff.1 hq
  rw [List.pairwise_iff_getElem] at h
  rcases Nat.lt_or_gt_of_ne hne with k | k
  · have := h i j (by simpa using hi) (by simpa using hj) k
    simpa using this
  · have := h j i (by simpa using hj) (by simpa using hi) k
    simpa using this.symm
theorem Now.store {w : World} {B : Nat} {its : List Item} {cur : Nat → List Nat} (h : Now w B its cur) (ap : (its.map Item.l).Pairwise AP) {t q g0 c0 mk : Nat} {p : Item} (hp : its[t]? = some p) (hl : p.l = .slice (some ⟨g0, 0, none⟩) p.xs.length c0) :
    Now (w.setCell ⟨g0, q, none⟩ (.int .u8 (mk : Int))) B its (fun j => if j = t then (cur t).set q mk else cur j) := by
  intro j x hx
  by_cases e : j = t
  · subst e
    rw [hp] at hx
    obtain rfl : p = x := by simpa using hx
    have o := h j p hp
    rw [hl] at o ⊢
    have st := o.2.stored q (.int .u8 (mk : Int))
    refine ⟨by simpa using o.1, ?_⟩
    have e : bv ((cur j).set q mk) = (bv (cur j)).set q (.int .u8 (mk : Int)) := by simp [bv, List.map_set]
    simp only [if_true, e]
    exact st.1
  · simp only [if_neg e]
    refine (h j x hx).far (set_grown w g0 q _) (fun g hg hy => ?_)
    cases hg
    exact ap_ne ap e hx hp g0 hy (by rw [hl]; rfl)
/-- Nothing has changed but what the items lie in. -/
structure Fr (w w' : World) (its : List Item) : Prop where
  os : w'.os = w.os
  tape : w'.tape = w.tape
  output : w'.output = w.output
  size : w.heap.size ≤ w'.heap.size
  block : ∀ i, i < w.heap.size → (∀ p ∈ its, p.l.ownBlock ≠ some i) → w'.heap[i]? = w.heap[i]?
theorem Fr.refl (w : World) (its : List Item) : Fr w w its := ⟨rfl, rfl, rfl, Nat.le_refl _, fun _ _ _ => rfl⟩
theorem Fr.grow {w w1 w2 : World} {its : List Item} {o : Option Nat} (h : Fr w w1 its) (k : w1.grownBy w2 o) (ho : ∀ g, o = some g → w.heap.size ≤ g ∨ ∃ p ∈ its, p.l.ownBlock = some g) : Fr w w2 its :=
  ⟨k.os.trans h.os, k.tape.trans h.tape, k.output.trans h.output, Nat.le_trans h.size k.size, fun i hi hne => by
    rw [k.block i (Nat.lt_of_lt_of_le hi h.size) ?_, h.block i hi hne]
    intro e
    rcases ho i e.symm with h1 | ⟨p, hp, h1⟩
    · omega
    · exact hne p hp h1⟩
theorem Fr.later {w w1 w2 : World} {its : List Item} (h : Fr w w1 its) (k : Below w1.heap.size w1 w2) : Fr w w2 its := h.grow (grown_below k none) (fun _ e => by cases e)
theorem Fr.below {w w' : World} {its : List Item} {B : Nat} (h : Fr w w' its) (ho : ∀ p ∈ its, ∀ g, p.l.ownBlock = some g → B ≤ g) (hB : B ≤ w.heap.size) : Below B w w' :=
  ⟨h.os, h.tape, h.output, h.size, fun i hi => h.block i (by omega) (fun p hp e => by have := ho p hp i e; omega)⟩
theorem Fr.rows {w w' : World} {its : List Item} {B B' n : Nat} {v : Value} {vs : List Value} {ys : Item → List Nat} (h : Fr w w' its) (k : RowS w B v n vs) (ho : ∀ p ∈ its, Own w B' p.l (ys p).length (ys p)) : RowS w' B v n vs := by
  refine ⟨k.1, k.2.1, k.2.2.1, ?_⟩
  rcases k.2.2.2 with h2 | ⟨g, cap, cur, h3, h4, h5, h6⟩
  · exact .inl h2
  · refine .inr ⟨g, cap, cur, h3, h4, ?_, h6⟩
    rw [h.block g (Array.getElem?_eq_some_iff.1 h5).1 (fun p hp e => row_own k (ho p hp) (by rw [h3]; rfl) e)]
    exact h5
theorem Fr.own {w w' : World} {its : List Item} {B m : Nat} {v : Value} {xs : List Nat} (h : Fr w w' its) (k : Own w B v m xs) (ho : ∀ p ∈ its, AP p.l v) : Own w' B v m xs :=
  k.same_block (fun g hg => h.block g (k.2.lt g hg).2 (fun p hp e => ho p hp g e hg))
theorem Rd.far {w w' : World} {v : Value} {xs : List Nat} {o : Option Nat} (h : Rd w v xs) (k : w.grownBy w' o) (hne : ∀ g, o = some g → v.ownBlock ≠ some g) : Rd w' v xs := by
  obtain ⟨h1, a, cap, rfl, h3, h4, h5, h6, h7⟩ := h
  refine ⟨h1, a, cap, rfl, h3, h4, h5, h6, ?_⟩
  rcases h7 with h7 | ⟨b, off, rfl, hc⟩
  · exact .inl h7
  · refine .inr ⟨b, off, rfl, fun i hi => k.cell (hc i hi) (fun e => hne b e.symm rfl)⟩
def xsAt (its : List Item) (j : Nat) : List Nat := (its[j]?.map Item.xs).getD []
theorem xsAt_eq {its : List Item} {j : Nat} {p : Item} (h : its[j]? = some p) : xsAt its j = p.xs := by simp [xsAt, h]
theorem Now.congr {w : World} {B : Nat} {its : List Item} {f f' : Nat → List Nat} (h : Now w B its f) (e : ∀ j, f j = f' j) : Now w B its f' := fun j p hp => by rw [← e j]; exact h j p hp
/-- All ahead of t are written full. -/
def fillTo (its : List Item) (t : Nat) (j : Nat) : List Nat := if j < t then List.replicate (xsAt its j).length (mkOf j) else xsAt its j
/-- .. and q bytes of that of number t. -/
def fillIn (its : List Item) (t q : Nat) (j : Nat) : List Nat := if j = t then List.replicate q (mkOf t) ++ (xsAt its t).drop q else fillTo its t j
theorem fillIn_zero (its : List Item) (t j : Nat) : fillTo its t j = fillIn its t 0 j := by
  unfold fillIn fillTo
  by_cases h : j = t
  · subst h; simp
  · simp [h]
theorem fillIn_next {its : List Item} {t q : Nat} (hq : q < (xsAt its t).length) (j : Nat) : (if j = t then (fillIn its t q t).set q (mkOf t) else fillIn its t q j) = fillIn its t (q + 1) j := by
  unfold fillIn
  by_cases h : j = t
  · subst h
    simp only [if_true]
    exact fill_set hq
  · simp [h]
theorem fillIn_end (its : List Item) (t j : Nat) : fillIn its t (xsAt its t).length j = fillTo its (t + 1) j := by
  unfold fillIn fillTo
  by_cases h : j = t
  · subst h; simp
  · by_cases h2 : j < t
    · simp [h, h2, Nat.lt_succ_of_lt h2]
    · have h3 : ¬ j < t + 1 := by omega
      simp [h, h2, h3]
theorem fillTo_all {its : List Item} {n j : Nat} (hn : n = its.length) {p : Item} (hp : its[j]? = some p) : fillTo its n j = List.replicate p.xs.length (mkOf j) := by
  obtain ⟨hj, _⟩ := List.getElem?_eq_some_iff.1 hp
  unfold fillTo
  rw [if_pos (by omega), xsAt_eq hp]
theorem Now.later {w w' : World} {B : Nat} {its : List Item} {f : Nat → List Nat} (h : Now w B its f) (hb : Below w.heap.size w w') : Now w' B its f := fun j p hp => (h j p hp).later hb
theorem mkOf_int (t : Nat) : ((mkOf t : Nat) : Int) = 1 + (t : Int) % 250 := by unfold mkOf; omega
/-- The mark of what is joined to the item of that number. -/
def tkOf (j : Nat) : Nat := 251 + j % 5
theorem tkOf_lt (j : Nat) : tkOf j < 256 := by unfold tkOf; omega
theorem tkOf_int (t : Nat) : ((tkOf t : Nat) : Int) = 251 + (t : Int) % 5 := by unfold tkOf; omega
/-- A row of byte strings that own their bytes, all apart. -/
structure Sr (w : World) (B n : Nat) (a : Option Addr) (c : Nat) (its : List Item) : Prop where
  rl : RowS w B (.slice a n c) n (its.map Item.l)
  own : ∀ p ∈ its, Own w B p.l p.xs.length p.xs ∧ Bys p.xs ∧ p.xs.length ≤ 4194304
  apart : (its.map Item.l).Pairwise AP
  len : n = its.length
theorem Sr.row {w w' : World} {B n c : Nat} {a : Option Addr} {its : List Item} (h : Sr w B n a c its) (f : Fr w w' its) : RowS w' B (.slice a n c) n (its.map Item.l) := f.rows (ys := Item.xs) h.rl (fun p hp => (h.own p hp).1)
theorem Sr.item {w w' : World} {B n c t : Nat} {a : Option Addr} {its : List Item} (h : Sr w B n a c its) (f : Fr w w' its) (ht : t < n) : ∃ p gL al cl, its[t]? = some p ∧ p.l = .slice al p.xs.length cl ∧ p.xs.length ≤ 4194304 ∧ a = some ⟨gL, 0, none⟩ ∧ w'.cell? ⟨gL, t, none⟩ = some (.slice al p.xs.length cl) := by
  have hti : t < its.length := by have := h.len; omega
  obtain ⟨gL, rfl, c1⟩ := (h.row f).at ht
  have o := h.own its[t] (List.getElem_mem hti)
  obtain ⟨al, cl, e⟩ := own_form o.1.2
  refine ⟨its[t], gL, al, cl, by simp [hti], e, o.2.2, rfl, ?_⟩
  rw [c1]
  simp [hti, e]
theorem Sr.start {w : World} {B n c : Nat} {a : Option Addr} {its : List Item} (h : Sr w B n a c its) : Now w B its (fillTo its 0) := fun j p hp => by
  have o := (h.own p (List.mem_of_getElem? hp)).1
  have e : fillTo its 0 j = p.xs := by unfold fillTo; simp [xsAt_eq hp]
  rw [e]
  exact o
theorem own_cell {w : World} {B k g c : Nat} {xs : List Nat} (h : Own w B (.slice (some ⟨g, 0, none⟩) k c) k xs) {i : Nat} (hi : i < k) : w.cell? ⟨g, i, none⟩ = some (.int .u8 ((xs.getD i 0 : Nat) : Int)) := by
  rw [h.2.cellAt i (by omega)]
  exact bv_at _ _ (by rw [← h.1]; exact hi)
/-- What lies in the block of another list goes on owning its bytes, if these stay. -/
theorem own_again {w w' : World} {B n k g c cu : Nat} {xs ys : List Nat} (o : Own w B (.slice (some ⟨g, 0, none⟩) n c) n xs) (o' : Own w' B (.slice (some ⟨g, 0, none⟩) n c) n xs) (ou : Own w B (.slice (some ⟨g, 0, none⟩) k cu) k ys) (hc : ∀ i, i < k → w'.cell? ⟨g, i, none⟩ = w.cell? ⟨g, i, none⟩) : Own w' B (.slice (some ⟨g, 0, none⟩) k cu) k ys := by
  rcases o.2.2 with ⟨h1, _⟩ | ⟨g1, cap1, cur1, h1, h2, h3, h4, h5, h6, h7⟩
  · cases h1
  rcases o'.2.2 with ⟨k1, _⟩ | ⟨g2, cap2, cur2, k1, k2, k3, k4, k5, k6, k7⟩
  · cases k1
  rcases ou.2.2 with ⟨l1, _⟩ | ⟨g3, cap3, cur3, l1, l2, l3, l4, l5, l6, l7⟩
  · cases l1
  simp only [Value.slice.injEq, Option.some.injEq, Addr.mk.injEq, and_true, true_and] at h1 k1 l1
  obtain ⟨rfl, rfl⟩ := h1
  obtain ⟨rfl, rfl⟩ := k1
  obtain ⟨rfl, rfl⟩ := l1
  rw [h3] at l3
  simp only [Option.some.injEq, Obj.cells.injEq, and_true] at l3
  subst l3
  have hsz : cur2.size = cur1.size := by rw [k6, h6]
  refine ⟨ou.1, ou.2.1, .inr ⟨g, cu, cur2, rfl, l2, k3, l4, l5, by rw [hsz, l6], ?_⟩⟩
  rw [← l7]
  apply List.ext_getElem?
  intro i
  by_cases hi : i < k * 1
  · rw [List.getElem?_take_of_lt hi, List.getElem?_take_of_lt hi]
    have := hc i (by omega)
    simp only [World.cell?, k3, h3] at this
    simpa using this
  · rw [List.getElem?_take_eq_none (by omega), List.getElem?_take_eq_none (by omega)]
theorem own_nonil {w : World} {B k c : Nat} {a : Option Addr} {xs : List Nat} (o : Own w B (.slice a k c) k xs) : (a = none ∧ k = 0 ∧ c = 0) ∨ ∃ g, a = some ⟨g, 0, none⟩ := by
  rcases o.2.2 with ⟨h1, h2⟩ | ⟨g, cap, cur, h1, _⟩
  · simp only [Value.slice.injEq] at h1
    exact .inl ⟨h1.1, h2, h1.2.2⟩
  · simp only [Value.slice.injEq] at h1
    exact .inr ⟨g, h1.1⟩
/-- Behind an append of marks to v a list u that held one mark, then these marks, holds them. -/
theorem own_keep {w w' : World} {B n r N t m k cv cu : Nat} {av au : Option Addr} {xs : List Nat} (ov : Own w B (.slice av N cv) N xs) (ov' : Own w' B (.slice av N cv) N xs) (gr : w.grownBy w' (Value.slice av N cv).ownBlock) (kp : Keeps t w w') (ou : Own w B (.slice au k cu) k (List.replicate n m ++ List.replicate r t)) (hn : n ≤ N) : Own w' B (.slice au k cu) k (List.replicate n m ++ List.replicate r t) := by
  by_cases hb : (Value.slice au k cu).ownBlock = (Value.slice av N cv).ownBlock
  · rcases own_nonil ou with ⟨rfl, rfl, rfl⟩ | ⟨g, rfl⟩
    · exact ⟨ou.1, ou.2.1, .inl ⟨rfl, rfl⟩⟩
    · rcases own_nonil ov with ⟨rfl, _, _⟩ | ⟨g2, rfl⟩
      · cases hb
      · simp only [Value.ownBlock, Option.some.injEq] at hb
        subst hb
        refine own_again ov ov' ou (fun i hi => ?_)
        by_cases hin : i < n
        · rw [own_cell ov' (by omega : i < N), own_cell ov (by omega : i < N)]
        · have hc := own_cell ou hi
          have hl := ou.1
          simp at hl
          have e : (List.replicate n m ++ List.replicate r t).getD i 0 = t := by
            have hr : i - n < r := by omega
            rw [List.getD_eq_getElem?_getD, List.getElem?_append_right (by simp; omega)]
            simp [hr]
          rw [e] at hc
          rw [hc]
          exact kp _ hc
  · exact ou.far gr (fun x hx hy => hb (by rw [hx]; exact hy))

/-- append(own, marks that lie somewhere ..): all that is wanted of it. -/
theorem append_tail {w : World} {B n m c B2 t : Nat} {a : Option Addr} {v : Value} {xs : List Nat} (ty : TypeId) (ho : Own w B v n xs) (ht : Own w B2 (.slice a m c) m (List.replicate m t)) (hm : 0 < m) (hl : n + m ≤ 140737488355328) (hB : B ≤ w.heap.size) :
    ∃ a' c' w', (Builtin.append_ #[23, 23] ty #[v, .slice a m c]).run Tryd.prog w = .ok (.slice a' (n + m) c') w' ∧ Own w' B (.slice a' (n + m) c') (n + m) (xs ++ List.replicate m t) ∧ w.grownBy w' v.ownBlock ∧ Own w' B v n xs ∧ ((Value.slice a' (n + m) c').ownBlock = v.ownBlock ∨ ∀ g, (Value.slice a' (n + m) c').ownBlock = some g → w.heap.size ≤ g) ∧ Keeps t w w' := by
  rcases own_nonil ht with ⟨_, h0, _⟩ | ⟨g, rfl⟩
  · omega
  have hnews : ∀ j u, (bv (List.replicate m t))[j]? = some u → w.cell? ((⟨g, 0, none⟩ : Addr).add j) = some u := ht.2.cells (g := g) rfl
  obtain ⟨v', w', hr, h1, h2, h3, h4⟩ := append_keep (bs := List.replicate m t) (c := c) ty ho ⟨g, 0, none⟩ (by simp) hnews hm hl hB
  have hk := append_marks ty ho ⟨g, 0, none⟩ hnews hm hl hr
  obtain ⟨a', c', rfl⟩ := own_form h1.2
  refine ⟨a', c', w', hr, h1, h2, h3, ?_, hk⟩
  rcases h4 with h4 | h4
  · exact .inl h4
  · refine .inr fun x hx => ?_
    rw [h4] at hx
    simp at hx
    omega
theorem wp_append_tail {a : Act} {w : World} {K : Act → World → Prop} {Q : Exit → Act → World → Prop} {p q B B2 n cp m cq t : Nat} {ap aq : Option Addr} {xs : List Nat} {d : Option Nat} {ps : String} {af : Array Edge} (hp : a.tmps[p]?.getD undef = .slice ap n cp) (hq : a.tmps[q]?.getD undef = .slice aq m cq) (ho : Own w B (.slice ap n cp) n xs) (ht : Own w B2 (.slice aq m cq) m (List.replicate m t)) (hm : 0 < m) (hl : n + m ≤ 140737488355328) (hB : B ≤ w.heap.size)
    (hk : ∀ a' c' w', Own w' B (.slice a' (n + m) c') (n + m) (xs ++ List.replicate m t) → w.grownBy w' (Value.slice ap n cp).ownBlock → Own w' B (.slice ap n cp) n xs → ((Value.slice a' (n + m) c').ownBlock = (Value.slice ap n cp).ownBlock ∨ ∀ g, (Value.slice a' (n + m) c').ownBlock = some g → w.heap.size ≤ g) → Keeps t w w' → K (a.put d (.slice a' (n + m) c')) w') :
    Oper.wp Tryd.prog { dst := d, op := Op.call { callee := Callee.builtin Builtin.append, args := #[Operand.tmp p, Operand.tmp q], argTypes := #[23, 23] }, type := 23, pos := ps, after := af, guard := none } a w K Q := by
  obtain ⟨a', c', w', hr, h1, h2, h3, h4, h5⟩ := append_tail 23 ho ht hm hl hB
  have e1 : a.eval (Operand.tmp p) = .slice ap n cp := by simpa [Act.eval] using hp
  have e2 : a.eval (Operand.tmp q) = .slice aq m cq := by simpa [Act.eval] using hq
  unfold Oper.wp execOp
  simp only [resolve, invoke, builtin, Sem.run_bind, Sem.run_pure, Result.andThen_ok, List.map_toArray, List.map_cons, List.map_nil, e1, e2, hr]
  exact hk a' c' w' h1 h2 h3 h4 h5
theorem wpList_append_tail {w : World} {ops : Array Oper} {rest : List Oper} {o : Oper} {a : Act} {Q : Exit → Act → World → Prop} (hgd : o.guard = none) (s x : Operand)
    (ho : o.op = .call { callee := .builtin .append, args := #[s, x], argTypes := #[23, 23] })
    (B B2 n cp m cq t : Nat) (ap aq : Option Addr) (xs : List Nat) (hs : a.eval s = .slice ap n cp) (hx : a.eval x = .slice aq m cq) (hown : Own w B (.slice ap n cp) n xs) (ht : Own w B2 (.slice aq m cq) m (List.replicate m t)) (hm : 0 < m) (hl : n + m ≤ 140737488355328) (hB : B ≤ w.heap.size)
    (h : ∀ a' c' w', Own w' B (.slice a' (n + m) c') (n + m) (xs ++ List.replicate m t) → w.grownBy w' (Value.slice ap n cp).ownBlock → Own w' B (.slice ap n cp) n xs → ((Value.slice a' (n + m) c').ownBlock = (Value.slice ap n cp).ownBlock ∨ ∀ g, (Value.slice a' (n + m) c').ownBlock = some g → w.heap.size ≤ g) → Keeps t w w' → wpList Tryd.prog ops Q rest (a.put o.dst (.slice a' (n + m) c')) w') : wpList Tryd.prog ops Q (o :: rest) a w := by
  obtain ⟨a', c', w', hr, h1, h2, h3, h4, h5⟩ := append_tail o.type hown ht hm hl hB
  refine wpList_plain hgd fun K hK => ?_
  unfold Oper.wp execOp
  simp only [ho, resolve, invoke, builtin, Sem.run_bind, Sem.run_pure, Result.andThen_ok, List.map_toArray, List.map_cons, List.map_nil, hs, hx, hr]
  exact hK _ _ (h a' c' w' h1 h2 h3 h4 h5)

def lenOf : Value → Nat | .slice _ n _ => n | _ => 0
set_option maxRecDepth 100000 in
set_option maxHeartbeats 2000000 in
theorem tail_any (i k : Nat) (hi : i ≤ 1000) (hk : k ≤ 70) (w : World) :
    Calls Tryd.prog 25 #[.int .i64 (i : Int), .int .i64 (k : Int)] w fun e w' => ∃ a c, e = .returned (.slice a k c) ∧ Own w' w.heap.size (.slice a k c) k (List.replicate k (tkOf i)) ∧ Below w.heap.size w w' := by
  have hi0 : (0 : Int) ≤ (i : Int) := by omega
  go_enter Tryd.func25, Tryd.ntmps25
  go_wp2
  go_loopw [5] (fun s wr => ∃ a q c, q ≤ k ∧ s = .slice a q c ∧ Own wr w.heap.size (.slice a q c) q (List.replicate q (tkOf i)) ∧ Below w.heap.size w wr) (fun s _ => k - lenOf s)
  case atStart => exact ⟨none, 0, 0, by omega, rfl, own_nil _ _, Below.refl _ _⟩
  case round =>
    obtain ⟨a, q, c, hq, rfl, own, hb⟩ := hrel
    by_cases hlt : q < k
    · have hlt2 : (q : Int) < (k : Int) := by omega
      have HB := Lib.hid hb
      have hs := hb.size
      clear hb
      go_wp2_with (at_builtin; refine wpList_append_mark rfl _ _ rfl w.heap.size a q c (tkOf i) _ rfl own [_] 1 rfl (by simp [bv, tkOf_int]) (by decide) (by omega) hs ?_; intro a5 m5 c5 w5 hm5 own5 gr5 ol5 nr5 kp5; refine Hid.out ?_)
      refine Lib.hid ?_
      rw [List.replicate_append_replicate] at own5
      have e5 := hm5.out
      subst e5
      have H5 : Hid (Own w5 w.heap.size (.slice a5 (q + 1) c5) (q + 1) (List.replicate (q + 1) (tkOf i)) ∧ Below w.heap.size w w5) := ⟨own5, by
        refine ⟨gr5.os.trans HB.out.os, gr5.tape.trans HB.out.tape, gr5.output.trans HB.out.output, Nat.le_trans HB.out.size gr5.size, fun x hx => ?_⟩
        rw [gr5.block x (by omega) (fun e => by have := (own.2.lt x e.symm).1; omega), HB.out.block x hx]⟩
      clear own5 gr5 ol5 nr5 kp5 hm5
      go_wp2
      go_roundw
      case rel => exact ⟨a5, q + 1, c5, by omega, rfl, H5.out.1, H5.out.2⟩
      case measure => simp only [lenOf]; omega
    · have hge : (k : Int) ≤ (q : Int) := by omega
      obtain rfl : q = k := by omega
      have HF := Lib.hid (And.intro own hb)
      clear own hb
      go_wp2
      go_ret
      exact ⟨a, c, rfl, HF.out.1, HF.out.2⟩

end Go.Proofs.YtledfniedoapiaaDoor
