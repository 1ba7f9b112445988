import Derived.Test.YtncbiohmogmcpaaDoorNumZ
import Derived.Deep.RegionHeld3
namespace Go.Proofs.YtncbiohmogmcpaaDoor
open Go.RowKit
set_option linter.unusedVariables false


set_option maxRecDepth 100000 in
set_option maxHeartbeats 4000000 in
theorem numbers_1 {vb vp : Value} {bs : List Nat} {w : World} (z nn : Int) (v : Nat) (hv : v < 18446744073709551616) (hb : Rd w vb bs) :
    Calls Tryd.prog 35 #[.agg #[.int .i64 1, vb, .int .i64 z, .int .i64 nn, .int .u64 ((v : Nat) : Int), vp]] w fun e w' => e = .returned (.bool true) ∧ Below w.heap.size w w' := by
  obtain ⟨ab, nb, capb, rfl⟩ := rd_slice hb
  have HV : Hid (v < 18446744073709551616) := hv
  have HBY : Hid (Bys (uintL v) ∧ (uintL v).length ≤ 281474976710656) := ⟨uintL_bys v hv, by have := (uintL_len v).2; omega⟩
  clear hv
  have A1 : Below w.heap.size w (w.alloc (.cells #[.int .i64 1, .slice ab nb capb, .int .i64 z, .int .i64 nn, .int .u64 ((v : Nat) : Int), vp] 34)) := (Below.refl w.heap.size w).alloc (Nat.le_refl _) _
  have bx1 : Hid (Box (w.alloc (.cells #[.int .i64 1, .slice ab nb capb, .int .i64 z, .int .i64 nn, .int .u64 ((v : Nat) : Int), vp] 34)) w.heap.size 1 (.slice ab nb capb) z nn ((v : Nat) : Int) vp) := Box.new w 1 (.slice ab nb capb) z nn ((v : Nat) : Int) vp
  have BD : Below w.heap.size w (w.alloc (.cells #[.int .i64 1, .slice ab nb capb, .int .i64 z, .int .i64 nn, .int .u64 ((v : Nat) : Int), vp] 34)).drew := A1.trans ((Below.refl _ _).drew.mono A1.size)
  have bxD : Hid (Box (w.alloc (.cells #[.int .i64 1, .slice ab nb capb, .int .i64 z, .int .i64 nn, .int .u64 ((v : Nat) : Int), vp] 34)).drew w.heap.size 1 (.slice ab nb capb) z nn ((v : Nat) : Int) vp) := bx1.out
  have hcD : (w.alloc (.cells #[.int .i64 1, .slice ab nb capb, .int .i64 z, .int .i64 nn, .int .u64 ((v : Nat) : Int), vp] 34)).drew.cell? ⟨w.heap.size, 4, none⟩ = some (.int .u64 ((v : Nat) : Int)) := bxD.out.v
  have HRB : Hid (Rd w (.slice ab nb capb) bs) := hb
  clear hb
  go_enter Tryd.func35, Tryd.ntmps35
  go_wp2_with fail
  go_region_held3 (fun wx => wx.cell? ⟨w.heap.size, 4, none⟩ = some (.int .u64 ((v : Nat) : Int)) ∧ Below w.heap.size w wx) (first | exact ⟨hcD, BD⟩ | exact ⟨hcA, hbA⟩ | exact ⟨hcB, hbB⟩ | assumption) (first | (go_at_call 32; refine (uint_at _ v rfl HV.out _ rfl).mono ?_; rintro e wa ⟨aa, ma, ca, rfl, owna, hba⟩; have ra := owna.rd HBY.out.1 (by rw [owna.1]; exact HBY.out.2); have hbA : Below w.heap.size w wa := BD.trans (hba.mono BD.size); have bxA : Hid (Box wa w.heap.size 1 (.slice ab nb capb) z nn ((v : Nat) : Int) vp) := bxD.out.later hba; have hcA := bxA.out.v; clear owna hba) | (go_at_call 39; refine (refUint_any v HV.out _).mono ?_; rintro e wb ⟨ab2, mb2, cb2, rfl, ownb, hbb⟩; have rb := ownb.rd HBY.out.1 (by rw [ownb.1]; exact HBY.out.2); have hbB : Below w.heap.size w wb := hbA.trans (hbb.mono hbA.size); have bxB : Hid (Box wb w.heap.size 1 (.slice ab nb capb) z nn ((v : Nat) : Int) vp) := bxA.out.later hbb; have hcB := bxB.out.v; have ra2 := ra.later hbb; clear ownb hbb ra) | (go_at_call 23; refine (same_any ra2 rb).mono ?_; rintro e wz ⟨rfl, rfl⟩))
  go_wp2
  go_ret
  exact ⟨rfl, by assumption⟩

set_option maxRecDepth 100000 in
set_option maxHeartbeats 4000000 in
theorem strings_3 {vb vp : Value} {bs : List Nat} {w : World} (z nn vv : Int) (hb : Rd w vb bs) (hl : bs.length ≤ 1048576) :
    Calls Tryd.prog 36 #[.agg #[.int .i64 3, vb, .int .i64 z, .int .i64 nn, .int .u64 vv, vp]] w fun e w' => e = .returned (.bool true) ∧ Below w.heap.size w w' := by
  obtain ⟨ab, nb, capb, rfl⟩ := rd_slice hb
  have HLL : Hid (bs.length ≤ 1048576) := hl
  have HBY : Hid (Bys (bytesL bs) ∧ (bytesL bs).length ≤ 281474976710656) := ⟨(uintL_bys _ (by omega)).app hb.1, by unfold bytesL; rw [List.length_append]; have := (uintL_len bs.length).2; omega⟩
  clear hl
  have A1 : Below w.heap.size w (w.alloc (.cells #[.int .i64 3, .slice ab nb capb, .int .i64 z, .int .i64 nn, .int .u64 vv, vp] 34)) := (Below.refl w.heap.size w).alloc (Nat.le_refl _) _
  have bx1 : Hid (Box (w.alloc (.cells #[.int .i64 3, .slice ab nb capb, .int .i64 z, .int .i64 nn, .int .u64 vv, vp] 34)) w.heap.size 3 (.slice ab nb capb) z nn vv vp) := Box.new w 3 (.slice ab nb capb) z nn vv vp
  have BD : Below w.heap.size w (w.alloc (.cells #[.int .i64 3, .slice ab nb capb, .int .i64 z, .int .i64 nn, .int .u64 vv, vp] 34)).drew := A1.trans ((Below.refl _ _).drew.mono A1.size)
  have bxD : Hid (Box (w.alloc (.cells #[.int .i64 3, .slice ab nb capb, .int .i64 z, .int .i64 nn, .int .u64 vv, vp] 34)).drew w.heap.size 3 (.slice ab nb capb) z nn vv vp) := bx1.out
  have hcD : (w.alloc (.cells #[.int .i64 3, .slice ab nb capb, .int .i64 z, .int .i64 nn, .int .u64 vv, vp] 34)).drew.cell? ⟨w.heap.size, 1, none⟩ = some (.slice ab nb capb) := bxD.out.b
  have HRB : Hid (Rd w (.slice ab nb capb) bs) := hb
  clear hb
  go_enter Tryd.func36, Tryd.ntmps36
  go_wp2_with fail
  go_region_held3 (fun wx => wx.cell? ⟨w.heap.size, 1, none⟩ = some (.slice ab nb capb) ∧ Below w.heap.size w wx) (first | exact ⟨hcD, BD⟩ | exact ⟨hcA, hbA⟩ | exact ⟨hcB, hbB⟩ | assumption) (first | (go_at_call 68; refine (bytes_any (HRB.out.later BD) (by have := HLL.out; omega)).mono ?_; rintro e wa ⟨aa, ma, ca, rfl, owna, hba⟩; have ra := owna.rd HBY.out.1 (by rw [owna.1]; exact HBY.out.2); have hbA : Below w.heap.size w wa := BD.trans (hba.mono BD.size); have bxA : Hid (Box wa w.heap.size 3 (.slice ab nb capb) z nn vv vp) := bxD.out.later hba; have hcA := bxA.out.b; clear owna hba) | (go_at_call 40; refine (refBytes_any (HRB.out.later hbA) (by have := HLL.out; omega)).mono ?_; rintro e wb ⟨ab2, mb2, cb2, rfl, ownb, hbb⟩; have rb := ownb.rd HBY.out.1 (by rw [ownb.1]; exact HBY.out.2); have hbB : Below w.heap.size w wb := hbA.trans (hbb.mono hbA.size); have bxB : Hid (Box wb w.heap.size 3 (.slice ab nb capb) z nn vv vp) := bxA.out.later hbb; have hcB := bxB.out.b; have ra2 := ra.later hbb; clear ownb hbb ra) | (go_at_call 23; refine (same_any ra2 rb).mono ?_; rintro e wz ⟨rfl, rfl⟩))
  go_wp2
  go_ret
  exact ⟨rfl, by assumption⟩

set_option maxRecDepth 100000 in
set_option maxHeartbeats 4000000 in
theorem strings_4 {vb vp : Value} {bs : List Nat} {w : World} (z nn vv : Int) (hb : Rd w vb bs) (hl : bs.length ≤ 1048576) (hn : nn ≤ 9223372036854775807) :
    Calls Tryd.prog 36 #[.agg #[.int .i64 4, vb, .int .i64 z, .int .i64 nn, .int .u64 vv, vp]] w fun e w' => e = .returned (.bool true) ∧ Below w.heap.size w w' := by
  obtain ⟨ab, nb, capb, rfl⟩ := rd_slice hb
  obtain ⟨R, hR⟩ : ∃ R, R = bytesZ bs z nn := ⟨_, rfl⟩
  obtain ⟨L, P, E⟩ := R
  have HR : Hid (bytesZ bs z nn = (L, P, E)) := hR.symm
  have HL : Hid (bs.length ≤ 1048576) := hl
  have HNN : Hid (nn ≤ 9223372036854775807) := hn
  clear hR hl hn
  have A1 := (Below.refl w.heap.size w).alloc (Nat.le_refl _) (.cells #[.int .i64 4, .slice ab nb capb, .int .i64 z, .int .i64 nn, .int .u64 vv, vp] 34)
  have bx1 : Hid (Box (w.alloc (.cells #[.int .i64 4, .slice ab nb capb, .int .i64 z, .int .i64 nn, .int .u64 vv, vp] 34)) w.heap.size 4 (.slice ab nb capb) z nn vv vp) := Box.new w 4 (.slice ab nb capb) z nn vv vp
  have rb1 := hb.later A1
  go_enter Tryd.func36, Tryd.ntmps36
  go_wp2_with fail
  refine (readBytes_p rb1 z nn HNN.out (by have := HL.out; omega) HR.out).mono ?_
  rintro e w2 ⟨a2, m2, c2, rfl, r2, hb2⟩
  have bx2 : Hid (Box w2 w.heap.size 4 (.slice ab nb capb) z nn vv vp) := bx1.out.later hb2
  have hxb := bx2.out.b
  have hxz := bx2.out.z
  have hxn := bx2.out.n
  have B2 := A1.trans (hb2.mono A1.size)
  have rb2 := hb.later B2
  clear hb2 A1 bx1 rb1
  go_wp2_with fail
  refine (refReadBytes_p rb2 z nn HNN.out (by have := HL.out; omega) HR.out).mono ?_
  rintro e w3 ⟨a3, m3, c3, rfl, r3, hb3⟩
  have r23 := r2.later hb3
  have B3 := B2.trans (hb3.mono B2.size)
  clear hb3 B2 bx2 hxb hxz hxn r2
  go_wp2_with fail
  refine (same_any r23 r3).mono ?_
  rintro e w4 ⟨rfl, rfl⟩
  rw [decide_eq_true rfl]
  go_wp2_with fail
  refine (num_any _ _).mono ?_
  rintro e w5 ⟨rfl, rfl⟩
  go_wp2
  go_ret
  exact ⟨by simp, B3⟩

end Go.Proofs.YtncbiohmogmcpaaDoor
