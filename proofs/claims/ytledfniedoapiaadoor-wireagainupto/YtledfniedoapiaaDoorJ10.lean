import Derived.Test.YtledfniedoapiaaDoorJ08
import Derived.Deep.RegionHeld3
import Derived.Test.YtledfniedoapiaaDoorJ09
import Derived.Lib.Hide
namespace Go.Proofs.YtledfniedoapiaaDoor
open Go.RowKit
set_option linter.unusedVariables false


set_option maxRecDepth 100000 in
set_option maxHeartbeats 4000000 in
theorem numbers_1 {vb vp : Value} {bs : List Nat} {w : World} (z nn : Int) (v : Nat) (hv : v < 18446744073709551616) (hb : Rd w vb bs) :
    Calls Tryd.prog 31 #[.agg #[.int .i64 1, vb, .int .i64 z, .int .i64 nn, .int .u64 ((v : Nat) : Int), vp]] w fun e w' => e = .returned (.bool true) ∧ Below w.heap.size w w' := by
  obtain ⟨ab, nb, capb, rfl⟩ := rd_slice hb
  have HV : Hid (v < 18446744073709551616) := hv
  have HBY : Hid (Bys (uintL v) ∧ (uintL v).length ≤ 281474976710656) := ⟨uintL_bys v hv, by have := (uintL_len v).2; omega⟩
  clear hv
  have A1 : Below w.heap.size w (w.alloc (.cells #[.int .i64 1, .slice ab nb capb, .int .i64 z, .int .i64 nn, .int .u64 ((v : Nat) : Int), vp] 38)) := (Below.refl w.heap.size w).alloc (Nat.le_refl _) _
  have bx1 : Hid (Box (w.alloc (.cells #[.int .i64 1, .slice ab nb capb, .int .i64 z, .int .i64 nn, .int .u64 ((v : Nat) : Int), vp] 38)) w.heap.size 1 (.slice ab nb capb) z nn ((v : Nat) : Int) vp) := Box.new w 1 (.slice ab nb capb) z nn ((v : Nat) : Int) vp
  have BD : Below w.heap.size w (w.alloc (.cells #[.int .i64 1, .slice ab nb capb, .int .i64 z, .int .i64 nn, .int .u64 ((v : Nat) : Int), vp] 38)).drew := A1.trans ((Below.refl _ _).drew.mono A1.size)
  have bxD : Hid (Box (w.alloc (.cells #[.int .i64 1, .slice ab nb capb, .int .i64 z, .int .i64 nn, .int .u64 ((v : Nat) : Int), vp] 38)).drew w.heap.size 1 (.slice ab nb capb) z nn ((v : Nat) : Int) vp) := bx1.out
  have hcD : (w.alloc (.cells #[.int .i64 1, .slice ab nb capb, .int .i64 z, .int .i64 nn, .int .u64 ((v : Nat) : Int), vp] 38)).drew.cell? ⟨w.heap.size, 4, none⟩ = some (.int .u64 ((v : Nat) : Int)) := bxD.out.v
  have HRB : Hid (Rd w (.slice ab nb capb) bs) := hb
  clear hb
  go_enter Tryd.func31, Tryd.ntmps31
  go_wp2_with fail
  go_region_held3 (fun wx => wx.cell? ⟨w.heap.size, 4, none⟩ = some (.int .u64 ((v : Nat) : Int)) ∧ Below w.heap.size w wx) (first | exact ⟨hcD, BD⟩ | exact ⟨hcA, hbA⟩ | exact ⟨hcB, hbB⟩ | assumption) (first | (go_at_call 29; refine (uint_at _ v rfl HV.out _ rfl).mono ?_; rintro e wa ⟨aa, ma, ca, rfl, owna, hba⟩; have ra := owna.rd HBY.out.1 (by rw [owna.1]; exact HBY.out.2); have hbA : Below w.heap.size w wa := BD.trans (hba.mono BD.size); have bxA : Hid (Box wa w.heap.size 1 (.slice ab nb capb) z nn ((v : Nat) : Int) vp) := bxD.out.later hba; have hcA := bxA.out.v; clear owna hba) | (go_at_call 35; refine (refUint_any v HV.out _).mono ?_; rintro e wb ⟨ab2, mb2, cb2, rfl, ownb, hbb⟩; have rb := ownb.rd HBY.out.1 (by rw [ownb.1]; exact HBY.out.2); have hbB : Below w.heap.size w wb := hbA.trans (hbb.mono hbA.size); have bxB : Hid (Box wb w.heap.size 1 (.slice ab nb capb) z nn ((v : Nat) : Int) vp) := bxA.out.later hbb; have hcB := bxB.out.v; have ra2 := ra.later hbb; clear ownb hbb ra) | (go_at_call 12; refine (same_any ra2 rb).mono ?_; rintro e wz ⟨rfl, rfl⟩))
  go_wp2
  go_ret
  exact ⟨rfl, by assumption⟩

set_option maxRecDepth 100000 in
set_option maxHeartbeats 4000000 in
theorem strings_3 {vb vp : Value} {bs : List Nat} {w : World} (z nn vv : Int) (hb : Rd w vb bs) (hl : bs.length ≤ 1048576) :
    Calls Tryd.prog 32 #[.agg #[.int .i64 3, vb, .int .i64 z, .int .i64 nn, .int .u64 vv, vp]] w fun e w' => e = .returned (.bool true) ∧ Below w.heap.size w w' := by
  obtain ⟨ab, nb, capb, rfl⟩ := rd_slice hb
  have HLL : Hid (bs.length ≤ 1048576) := hl
  have HBY : Hid (Bys (bytesL bs) ∧ (bytesL bs).length ≤ 281474976710656) := ⟨(uintL_bys _ (by omega)).app hb.1, by unfold bytesL; rw [List.length_append]; have := (uintL_len bs.length).2; omega⟩
  clear hl
  have A1 : Below w.heap.size w (w.alloc (.cells #[.int .i64 3, .slice ab nb capb, .int .i64 z, .int .i64 nn, .int .u64 vv, vp] 38)) := (Below.refl w.heap.size w).alloc (Nat.le_refl _) _
  have bx1 : Hid (Box (w.alloc (.cells #[.int .i64 3, .slice ab nb capb, .int .i64 z, .int .i64 nn, .int .u64 vv, vp] 38)) w.heap.size 3 (.slice ab nb capb) z nn vv vp) := Box.new w 3 (.slice ab nb capb) z nn vv vp
  have BD : Below w.heap.size w (w.alloc (.cells #[.int .i64 3, .slice ab nb capb, .int .i64 z, .int .i64 nn, .int .u64 vv, vp] 38)).drew := A1.trans ((Below.refl _ _).drew.mono A1.size)
  have bxD : Hid (Box (w.alloc (.cells #[.int .i64 3, .slice ab nb capb, .int .i64 z, .int .i64 nn, .int .u64 vv, vp] 38)).drew w.heap.size 3 (.slice ab nb capb) z nn vv vp) := bx1.out
  have hcD : (w.alloc (.cells #[.int .i64 3, .slice ab nb capb, .int .i64 z, .int .i64 nn, .int .u64 vv, vp] 38)).drew.cell? ⟨w.heap.size, 1, none⟩ = some (.slice ab nb capb) := bxD.out.b
  have HRB : Hid (Rd w (.slice ab nb capb) bs) := hb
  clear hb
  go_enter Tryd.func32, Tryd.ntmps32
  go_wp2_with fail
  go_region_held3 (fun wx => wx.cell? ⟨w.heap.size, 1, none⟩ = some (.slice ab nb capb) ∧ Below w.heap.size w wx) (first | exact ⟨hcD, BD⟩ | exact ⟨hcA, hbA⟩ | exact ⟨hcB, hbB⟩ | assumption) (first | (go_at_call 46; refine (bytes_any (HRB.out.later BD) (by have := HLL.out; omega)).mono ?_; rintro e wa ⟨aa, ma, ca, rfl, owna, hba⟩; have ra := owna.rd HBY.out.1 (by rw [owna.1]; exact HBY.out.2); have hbA : Below w.heap.size w wa := BD.trans (hba.mono BD.size); have bxA : Hid (Box wa w.heap.size 3 (.slice ab nb capb) z nn vv vp) := bxD.out.later hba; have hcA := bxA.out.b; clear owna hba) | (go_at_call 36; refine (refBytes_any (HRB.out.later hbA) (by have := HLL.out; omega)).mono ?_; rintro e wb ⟨ab2, mb2, cb2, rfl, ownb, hbb⟩; have rb := ownb.rd HBY.out.1 (by rw [ownb.1]; exact HBY.out.2); have hbB : Below w.heap.size w wb := hbA.trans (hbb.mono hbA.size); have bxB : Hid (Box wb w.heap.size 3 (.slice ab nb capb) z nn vv vp) := bxA.out.later hbb; have hcB := bxB.out.b; have ra2 := ra.later hbb; clear ownb hbb ra) | (go_at_call 12; refine (same_any ra2 rb).mono ?_; rintro e wz ⟨rfl, rfl⟩))
  go_wp2
  go_ret
  exact ⟨rfl, by assumption⟩

set_option maxRecDepth 100000 in
set_option maxHeartbeats 4000000 in
theorem strings_4 {vb vp : Value} {bs : List Nat} {w : World} (z nn vv : Int) (hb : Rd w vb bs) (hl : bs.length ≤ 1048576) (hn : nn ≤ 9223372036854775807) :
    Calls Tryd.prog 32 #[.agg #[.int .i64 4, vb, .int .i64 z, .int .i64 nn, .int .u64 vv, vp]] w fun e w' => e = .returned (.bool true) ∧ Below w.heap.size w w' := by
  obtain ⟨ab, nb, capb, rfl⟩ := rd_slice hb
  obtain ⟨R, hR⟩ : ∃ R, R = bytesZ bs z nn := ⟨_, rfl⟩
  obtain ⟨L, P, E⟩ := R
  have HR : Hid (bytesZ bs z nn = (L, P, E)) := hR.symm
  have HL : Hid (bs.length ≤ 1048576) := hl
  have HNN : Hid (nn ≤ 9223372036854775807) := hn
  clear hR hl hn
  have A1 := (Below.refl w.heap.size w).alloc (Nat.le_refl _) (.cells #[.int .i64 4, .slice ab nb capb, .int .i64 z, .int .i64 nn, .int .u64 vv, vp] 38)
  have bx1 : Hid (Box (w.alloc (.cells #[.int .i64 4, .slice ab nb capb, .int .i64 z, .int .i64 nn, .int .u64 vv, vp] 38)) w.heap.size 4 (.slice ab nb capb) z nn vv vp) := Box.new w 4 (.slice ab nb capb) z nn vv vp
  have rb1 := hb.later A1
  go_enter Tryd.func32, Tryd.ntmps32
  go_wp2_with fail
  refine (readBytes_p rb1 z nn HNN.out (by have := HL.out; omega) HR.out).mono ?_
  rintro e w2 ⟨a2, m2, c2, rfl, r2, hb2⟩
  have bx2 : Hid (Box w2 w.heap.size 4 (.slice ab nb capb) z nn vv vp) := bx1.out.later hb2
  have hxb := bx2.out.b
  have hxz := bx2.out.z
  have hxn := bx2.out.n
  have B2 := A1.trans (hb2.mono A1.size)
  have rb2 := hb.later B2
  clear hb2 A1 bx1 rb1
  go_wp2_with fail
  refine (refReadBytes_p rb2 z nn HNN.out (by have := HL.out; omega) HR.out).mono ?_
  rintro e w3 ⟨a3, m3, c3, rfl, r3, hb3⟩
  have r23 := r2.later hb3
  have B3 := B2.trans (hb3.mono B2.size)
  clear hb3 B2 bx2 hxb hxz hxn r2
  go_wp2_with fail
  refine (same_any r23 r3).mono ?_
  rintro e w4 ⟨rfl, rfl⟩
  rw [decide_eq_true rfl]
  go_wp2_with fail
  refine (num_any _ _).mono ?_
  rintro e w5 ⟨rfl, rfl⟩
  go_wp2
  go_ret
  exact ⟨by simp, B3⟩

end Go.Proofs.YtledfniedoapiaaDoor

namespace Go.Proofs.YtledfniedoapiaaDoor
open Go.RowKit
set_option linter.unusedVariables false

/-- What lies at a place behind what is lent. -/
def mkD (i : Nat) : Nat := ((203 - 5 * (i : Int)) % 256).toNat
theorem mkD_int (i : Nat) : ((mkD i : Nat) : Int) = (203 - 5 * (i : Int)) % 256 := by unfold mkD; omega
theorem mkD_lt (i : Nat) : mkD i < 256 := by unfold mkD; omega
set_option maxRecDepth 100000 in
theorem mark_any (i : Nat) (hi : i ≤ 100000000) (w : World) : Calls Tryd.prog 30 #[.int .i64 (i : Int)] w fun e w' => e = .returned (.int .u8 ((mkD i : Nat) : Int)) ∧ w' = w := by
  have h0 : (0 : Int) ≤ (i : Int) := by omega
  have h1 : (i : Int) ≤ 100000000 := by omega
  rw [mkD_int]
  go_enter Tryd.func30, Tryd.ntmps30
  go_wp2
  go_ret
  exact ⟨rfl, rfl⟩

set_option maxRecDepth 100000 in
theorem answered_1 {xb xp : Option Addr} {yb zb yp zp : Nat} {z n : Int} {v' : Nat} {bs : List Nat} {ps : List (List Nat)} {w : World} (hb : Rd w (.slice xb yb zb) bs) (hp : RdP w (.slice xp yp zp) ps) (ht : Tab w) (l1 : bs.length ≤ 1048576) (n1 : n ≤ 9223372036854775807) (hv : v' < 18446744073709551616) :
    Calls Tryd.prog 15 #[.agg #[.int .i64 1, .slice xb yb zb, .int .i64 z, .int .i64 n, .int .u64 ((v' : Nat) : Int), .slice xp yp zp]] w fun e w' => e = .returned (.bool true) ∧ Below w.heap.size w w' := by
  have A := (Below.refl w.heap.size w).alloc (Nat.le_refl _) (.cells #[.int .i64 1, .slice xb yb zb, .int .i64 z, .int .i64 n, .int .u64 ((v' : Nat) : Int), .slice xp yp zp] 38)
  have hb2 := hb.later A
  have hp2 := hp.later A
  have ht2 := ht.later A
  have C : Hid (Calls Tryd.prog 31 #[.agg #[.int .i64 1, .slice xb yb zb, .int .i64 z, .int .i64 n, .int .u64 ((v' : Nat) : Int), .slice xp yp zp]] (w.alloc (.cells #[.int .i64 1, .slice xb yb zb, .int .i64 z, .int .i64 n, .int .u64 ((v' : Nat) : Int), .slice xp yp zp] 38)) _) := numbers_1 z n v' (by omega) hb2
  have HA := Lib.hid A
  clear hb hp ht hb2 hp2 ht2 A
  go_enter Tryd.func15, Tryd.ntmps15
  go_wp2_with fail
  refine C.out.mono ?_
  rintro e w1 ⟨rfl, b1⟩
  have FIN := Lib.hid (HA.out.trans (b1.mono HA.out.size))
  clear C HA b1
  go_wp2
  go_ret
  exact ⟨rfl, FIN.out⟩
set_option maxRecDepth 100000 in
theorem answered_2 {xb xp : Option Addr} {yb zb yp zp : Nat} {z n : Int} {v : Int} {bs : List Nat} {ps : List (List Nat)} {w : World} (hb : Rd w (.slice xb yb zb) bs) (hp : RdP w (.slice xp yp zp) ps) (ht : Tab w) (l1 : bs.length ≤ 1048576) (n1 : n ≤ 9223372036854775807) :
    Calls Tryd.prog 15 #[.agg #[.int .i64 2, .slice xb yb zb, .int .i64 z, .int .i64 n, .int .u64 v, .slice xp yp zp]] w fun e w' => e = .returned (.bool true) ∧ Below w.heap.size w w' := by
  have A := (Below.refl w.heap.size w).alloc (Nat.le_refl _) (.cells #[.int .i64 2, .slice xb yb zb, .int .i64 z, .int .i64 n, .int .u64 v, .slice xp yp zp] 38)
  have hb2 := hb.later A
  have hp2 := hp.later A
  have ht2 := ht.later A
  have C : Hid (Calls Tryd.prog 31 #[.agg #[.int .i64 2, .slice xb yb zb, .int .i64 z, .int .i64 n, .int .u64 v, .slice xp yp zp]] (w.alloc (.cells #[.int .i64 2, .slice xb yb zb, .int .i64 z, .int .i64 n, .int .u64 v, .slice xp yp zp] 38)) _) := numbers_2 z n v hb2
  have HA := Lib.hid A
  clear hb hp ht hb2 hp2 ht2 A
  go_enter Tryd.func15, Tryd.ntmps15
  go_wp2_with fail
  refine C.out.mono ?_
  rintro e w1 ⟨rfl, b1⟩
  have FIN := Lib.hid (HA.out.trans (b1.mono HA.out.size))
  clear C HA b1
  go_wp2
  go_ret
  exact ⟨rfl, FIN.out⟩
set_option maxRecDepth 100000 in
theorem answered_5 {xb xp : Option Addr} {yb zb yp zp : Nat} {z n : Int} {v : Int} {bs : List Nat} {ps : List (List Nat)} {w : World} (hb : Rd w (.slice xb yb zb) bs) (hp : RdP w (.slice xp yp zp) ps) (ht : Tab w) (l1 : bs.length ≤ 1048576) (n1 : n ≤ 9223372036854775807) :
    Calls Tryd.prog 15 #[.agg #[.int .i64 5, .slice xb yb zb, .int .i64 z, .int .i64 n, .int .u64 v, .slice xp yp zp]] w fun e w' => e = .returned (.bool true) ∧ Below w.heap.size w w' := by
  have A := (Below.refl w.heap.size w).alloc (Nat.le_refl _) (.cells #[.int .i64 5, .slice xb yb zb, .int .i64 z, .int .i64 n, .int .u64 v, .slice xp yp zp] 38)
  have hb2 := hb.later A
  have hp2 := hp.later A
  have ht2 := ht.later A
  have C : Hid (Calls Tryd.prog 31 #[.agg #[.int .i64 5, .slice xb yb zb, .int .i64 z, .int .i64 n, .int .u64 v, .slice xp yp zp]] (w.alloc (.cells #[.int .i64 5, .slice xb yb zb, .int .i64 z, .int .i64 n, .int .u64 v, .slice xp yp zp] 38)) _) := numbers_5 z n v hb2 n1
  have HA := Lib.hid A
  clear hb hp ht hb2 hp2 ht2 A
  go_enter Tryd.func15, Tryd.ntmps15
  go_wp2_with fail
  refine C.out.mono ?_
  rintro e w1 ⟨rfl, b1⟩
  have FIN := Lib.hid (HA.out.trans (b1.mono HA.out.size))
  clear C HA b1
  go_wp2
  go_ret
  exact ⟨rfl, FIN.out⟩
set_option maxRecDepth 100000 in
theorem answered_6 {xb xp : Option Addr} {yb zb yp zp : Nat} {z n : Int} {v : Int} {bs : List Nat} {ps : List (List Nat)} {w : World} (hb : Rd w (.slice xb yb zb) bs) (hp : RdP w (.slice xp yp zp) ps) (ht : Tab w) (l1 : bs.length ≤ 1048576) (n1 : n ≤ 9223372036854775807) :
    Calls Tryd.prog 15 #[.agg #[.int .i64 6, .slice xb yb zb, .int .i64 z, .int .i64 n, .int .u64 v, .slice xp yp zp]] w fun e w' => e = .returned (.bool true) ∧ Below w.heap.size w w' := by
  have A := (Below.refl w.heap.size w).alloc (Nat.le_refl _) (.cells #[.int .i64 6, .slice xb yb zb, .int .i64 z, .int .i64 n, .int .u64 v, .slice xp yp zp] 38)
  have hb2 := hb.later A
  have hp2 := hp.later A
  have ht2 := ht.later A
  have C : Hid (Calls Tryd.prog 31 #[.agg #[.int .i64 6, .slice xb yb zb, .int .i64 z, .int .i64 n, .int .u64 v, .slice xp yp zp]] (w.alloc (.cells #[.int .i64 6, .slice xb yb zb, .int .i64 z, .int .i64 n, .int .u64 v, .slice xp yp zp] 38)) _) := numbers_6 z n v hb2
  have HA := Lib.hid A
  clear hb hp ht hb2 hp2 ht2 A
  go_enter Tryd.func15, Tryd.ntmps15
  go_wp2_with fail
  refine C.out.mono ?_
  rintro e w1 ⟨rfl, b1⟩
  have FIN := Lib.hid (HA.out.trans (b1.mono HA.out.size))
  clear C HA b1
  go_wp2
  go_ret
  exact ⟨rfl, FIN.out⟩
set_option maxRecDepth 100000 in
theorem answered_7 {xb xp : Option Addr} {yb zb yp zp : Nat} {z n : Int} {v : Int} {bs : List Nat} {ps : List (List Nat)} {w : World} (hb : Rd w (.slice xb yb zb) bs) (hp : RdP w (.slice xp yp zp) ps) (ht : Tab w) (l1 : bs.length ≤ 1048576) (n1 : n ≤ 9223372036854775807) :
    Calls Tryd.prog 15 #[.agg #[.int .i64 7, .slice xb yb zb, .int .i64 z, .int .i64 n, .int .u64 v, .slice xp yp zp]] w fun e w' => e = .returned (.bool true) ∧ Below w.heap.size w w' := by
  have A := (Below.refl w.heap.size w).alloc (Nat.le_refl _) (.cells #[.int .i64 7, .slice xb yb zb, .int .i64 z, .int .i64 n, .int .u64 v, .slice xp yp zp] 38)
  have hb2 := hb.later A
  have hp2 := hp.later A
  have ht2 := ht.later A
  have C : Hid (Calls Tryd.prog 31 #[.agg #[.int .i64 7, .slice xb yb zb, .int .i64 z, .int .i64 n, .int .u64 v, .slice xp yp zp]] (w.alloc (.cells #[.int .i64 7, .slice xb yb zb, .int .i64 z, .int .i64 n, .int .u64 v, .slice xp yp zp] 38)) _) := numbers_7 z n v hb2 n1
  have HA := Lib.hid A
  clear hb hp ht hb2 hp2 ht2 A
  go_enter Tryd.func15, Tryd.ntmps15
  go_wp2_with fail
  refine C.out.mono ?_
  rintro e w1 ⟨rfl, b1⟩
  have FIN := Lib.hid (HA.out.trans (b1.mono HA.out.size))
  clear C HA b1
  go_wp2
  go_ret
  exact ⟨rfl, FIN.out⟩
set_option maxRecDepth 100000 in
theorem answered_8 {xb xp : Option Addr} {yb zb yp zp : Nat} {z n : Int} {v : Int} {bs : List Nat} {ps : List (List Nat)} {w : World} (hb : Rd w (.slice xb yb zb) bs) (hp : RdP w (.slice xp yp zp) ps) (ht : Tab w) (l1 : bs.length ≤ 1048576) (n1 : n ≤ 9223372036854775807) :
    Calls Tryd.prog 15 #[.agg #[.int .i64 8, .slice xb yb zb, .int .i64 z, .int .i64 n, .int .u64 v, .slice xp yp zp]] w fun e w' => e = .returned (.bool true) ∧ Below w.heap.size w w' := by
  have A := (Below.refl w.heap.size w).alloc (Nat.le_refl _) (.cells #[.int .i64 8, .slice xb yb zb, .int .i64 z, .int .i64 n, .int .u64 v, .slice xp yp zp] 38)
  have hb2 := hb.later A
  have hp2 := hp.later A
  have ht2 := ht.later A
  have C : Hid (Calls Tryd.prog 31 #[.agg #[.int .i64 8, .slice xb yb zb, .int .i64 z, .int .i64 n, .int .u64 v, .slice xp yp zp]] (w.alloc (.cells #[.int .i64 8, .slice xb yb zb, .int .i64 z, .int .i64 n, .int .u64 v, .slice xp yp zp] 38)) _) := numbers_8 z n v hb2
  have HA := Lib.hid A
  clear hb hp ht hb2 hp2 ht2 A
  go_enter Tryd.func15, Tryd.ntmps15
  go_wp2_with fail
  refine C.out.mono ?_
  rintro e w1 ⟨rfl, b1⟩
  have FIN := Lib.hid (HA.out.trans (b1.mono HA.out.size))
  clear C HA b1
  go_wp2
  go_ret
  exact ⟨rfl, FIN.out⟩
set_option maxRecDepth 100000 in
theorem answered_3 {xb xp : Option Addr} {yb zb yp zp : Nat} {z n : Int} {v : Int} {bs : List Nat} {ps : List (List Nat)} {w : World} (hb : Rd w (.slice xb yb zb) bs) (hp : RdP w (.slice xp yp zp) ps) (ht : Tab w) (l1 : bs.length ≤ 1048576) (n1 : n ≤ 9223372036854775807) :
    Calls Tryd.prog 15 #[.agg #[.int .i64 3, .slice xb yb zb, .int .i64 z, .int .i64 n, .int .u64 v, .slice xp yp zp]] w fun e w' => e = .returned (.bool true) ∧ Below w.heap.size w w' := by
  have A := (Below.refl w.heap.size w).alloc (Nat.le_refl _) (.cells #[.int .i64 3, .slice xb yb zb, .int .i64 z, .int .i64 n, .int .u64 v, .slice xp yp zp] 38)
  have hb2 := hb.later A
  have hp2 := hp.later A
  have ht2 := ht.later A
  have C : Hid (Calls Tryd.prog 32 #[.agg #[.int .i64 3, .slice xb yb zb, .int .i64 z, .int .i64 n, .int .u64 v, .slice xp yp zp]] (w.alloc (.cells #[.int .i64 3, .slice xb yb zb, .int .i64 z, .int .i64 n, .int .u64 v, .slice xp yp zp] 38)) _) := strings_3 z n v hb2 l1
  have HA := Lib.hid A
  clear hb hp ht hb2 hp2 ht2 A
  go_enter Tryd.func15, Tryd.ntmps15
  go_wp2_with fail
  refine C.out.mono ?_
  rintro e w1 ⟨rfl, b1⟩
  have FIN := Lib.hid (HA.out.trans (b1.mono HA.out.size))
  clear C HA b1
  go_wp2
  go_ret
  exact ⟨rfl, FIN.out⟩
set_option maxRecDepth 100000 in
theorem answered_4 {xb xp : Option Addr} {yb zb yp zp : Nat} {z n : Int} {v : Int} {bs : List Nat} {ps : List (List Nat)} {w : World} (hb : Rd w (.slice xb yb zb) bs) (hp : RdP w (.slice xp yp zp) ps) (ht : Tab w) (l1 : bs.length ≤ 1048576) (n1 : n ≤ 9223372036854775807) :
    Calls Tryd.prog 15 #[.agg #[.int .i64 4, .slice xb yb zb, .int .i64 z, .int .i64 n, .int .u64 v, .slice xp yp zp]] w fun e w' => e = .returned (.bool true) ∧ Below w.heap.size w w' := by
  have A := (Below.refl w.heap.size w).alloc (Nat.le_refl _) (.cells #[.int .i64 4, .slice xb yb zb, .int .i64 z, .int .i64 n, .int .u64 v, .slice xp yp zp] 38)
  have hb2 := hb.later A
  have hp2 := hp.later A
  have ht2 := ht.later A
  have C : Hid (Calls Tryd.prog 32 #[.agg #[.int .i64 4, .slice xb yb zb, .int .i64 z, .int .i64 n, .int .u64 v, .slice xp yp zp]] (w.alloc (.cells #[.int .i64 4, .slice xb yb zb, .int .i64 z, .int .i64 n, .int .u64 v, .slice xp yp zp] 38)) _) := strings_4 z n v hb2 l1 n1
  have HA := Lib.hid A
  clear hb hp ht hb2 hp2 ht2 A
  go_enter Tryd.func15, Tryd.ntmps15
  go_wp2_with fail
  refine C.out.mono ?_
  rintro e w1 ⟨rfl, b1⟩
  have FIN := Lib.hid (HA.out.trans (b1.mono HA.out.size))
  clear C HA b1
  go_wp2
  go_ret
  exact ⟨rfl, FIN.out⟩
set_option maxRecDepth 100000 in
theorem answered_9 {xb xp : Option Addr} {yb zb yp zp : Nat} {z n : Int} {v : Int} {bs : List Nat} {ps : List (List Nat)} {w : World} (hb : Rd w (.slice xb yb zb) bs) (hp : RdP w (.slice xp yp zp) ps) (ht : Tab w) (l1 : bs.length ≤ 1048576) (n1 : n ≤ 9223372036854775807) :
    Calls Tryd.prog 15 #[.agg #[.int .i64 9, .slice xb yb zb, .int .i64 z, .int .i64 n, .int .u64 v, .slice xp yp zp]] w fun e w' => e = .returned (.bool true) ∧ Below w.heap.size w w' := by
  have A := (Below.refl w.heap.size w).alloc (Nat.le_refl _) (.cells #[.int .i64 9, .slice xb yb zb, .int .i64 z, .int .i64 n, .int .u64 v, .slice xp yp zp] 38)
  have hb2 := hb.later A
  have hp2 := hp.later A
  have ht2 := ht.later A
  have C : Hid (Calls Tryd.prog 32 #[.agg #[.int .i64 9, .slice xb yb zb, .int .i64 z, .int .i64 n, .int .u64 v, .slice xp yp zp]] (w.alloc (.cells #[.int .i64 9, .slice xb yb zb, .int .i64 z, .int .i64 n, .int .u64 v, .slice xp yp zp] 38)) _) := strings_9 z n v hb2 l1
  have HA := Lib.hid A
  clear hb hp ht hb2 hp2 ht2 A
  go_enter Tryd.func15, Tryd.ntmps15
  go_wp2_with fail
  refine C.out.mono ?_
  rintro e w1 ⟨rfl, b1⟩
  have FIN := Lib.hid (HA.out.trans (b1.mono HA.out.size))
  clear C HA b1
  go_wp2
  go_ret
  exact ⟨rfl, FIN.out⟩
set_option maxRecDepth 100000 in
theorem answered_10 {xb xp : Option Addr} {yb zb yp zp : Nat} {z n : Int} {v : Int} {bs : List Nat} {ps : List (List Nat)} {w : World} (hb : Rd w (.slice xb yb zb) bs) (hp : RdP w (.slice xp yp zp) ps) (ht : Tab w) (l1 : bs.length ≤ 1048576) (n1 : n ≤ 9223372036854775807) :
    Calls Tryd.prog 15 #[.agg #[.int .i64 10, .slice xb yb zb, .int .i64 z, .int .i64 n, .int .u64 v, .slice xp yp zp]] w fun e w' => e = .returned (.bool true) ∧ Below w.heap.size w w' := by
  have A := (Below.refl w.heap.size w).alloc (Nat.le_refl _) (.cells #[.int .i64 10, .slice xb yb zb, .int .i64 z, .int .i64 n, .int .u64 v, .slice xp yp zp] 38)
  have hb2 := hb.later A
  have hp2 := hp.later A
  have ht2 := ht.later A
  have C : Hid (Calls Tryd.prog 32 #[.agg #[.int .i64 10, .slice xb yb zb, .int .i64 z, .int .i64 n, .int .u64 v, .slice xp yp zp]] (w.alloc (.cells #[.int .i64 10, .slice xb yb zb, .int .i64 z, .int .i64 n, .int .u64 v, .slice xp yp zp] 38)) _) := strings_10 z n v hb2 l1
  have HA := Lib.hid A
  clear hb hp ht hb2 hp2 ht2 A
  go_enter Tryd.func15, Tryd.ntmps15
  go_wp2_with fail
  refine C.out.mono ?_
  rintro e w1 ⟨rfl, b1⟩
  have FIN := Lib.hid (HA.out.trans (b1.mono HA.out.size))
  clear C HA b1
  go_wp2
  go_ret
  exact ⟨rfl, FIN.out⟩
set_option maxRecDepth 100000 in
theorem answered_11 {xb xp : Option Addr} {yb zb yp zp : Nat} {z n : Int} {v : Int} {bs : List Nat} {ps : List (List Nat)} {w : World} (hb : Rd w (.slice xb yb zb) bs) (hp : RdP w (.slice xp yp zp) ps) (ht : Tab w) (l1 : bs.length ≤ 1048576) (n1 : n ≤ 9223372036854775807) :
    Calls Tryd.prog 15 #[.agg #[.int .i64 11, .slice xb yb zb, .int .i64 z, .int .i64 n, .int .u64 v, .slice xp yp zp]] w fun e w' => e = .returned (.bool true) ∧ Below w.heap.size w w' := by
  have A := (Below.refl w.heap.size w).alloc (Nat.le_refl _) (.cells #[.int .i64 11, .slice xb yb zb, .int .i64 z, .int .i64 n, .int .u64 v, .slice xp yp zp] 38)
  have hb2 := hb.later A
  have hp2 := hp.later A
  have ht2 := ht.later A
  have C : Hid (Calls Tryd.prog 32 #[.agg #[.int .i64 11, .slice xb yb zb, .int .i64 z, .int .i64 n, .int .u64 v, .slice xp yp zp]] (w.alloc (.cells #[.int .i64 11, .slice xb yb zb, .int .i64 z, .int .i64 n, .int .u64 v, .slice xp yp zp] 38)) _) := strings_11 z n v hb2 hp2 ht2
  have HA := Lib.hid A
  clear hb hp ht hb2 hp2 ht2 A
  go_enter Tryd.func15, Tryd.ntmps15
  go_wp2_with fail
  refine C.out.mono ?_
  rintro e w1 ⟨rfl, b1⟩
  have FIN := Lib.hid (HA.out.trans (b1.mono HA.out.size))
  clear C HA b1
  go_wp2
  go_ret
  exact ⟨rfl, FIN.out⟩
set_option maxRecDepth 100000 in
theorem answered_12 {xb xp : Option Addr} {yb zb yp zp : Nat} {z n : Int} {v : Int} {bs : List Nat} {ps : List (List Nat)} {w : World} (hb : Rd w (.slice xb yb zb) bs) (hp : RdP w (.slice xp yp zp) ps) (ht : Tab w) (l1 : bs.length ≤ 1048576) (n1 : n ≤ 9223372036854775807) :
    Calls Tryd.prog 15 #[.agg #[.int .i64 12, .slice xb yb zb, .int .i64 z, .int .i64 n, .int .u64 v, .slice xp yp zp]] w fun e w' => e = .returned (.bool true) ∧ Below w.heap.size w w' := by
  have A := (Below.refl w.heap.size w).alloc (Nat.le_refl _) (.cells #[.int .i64 12, .slice xb yb zb, .int .i64 z, .int .i64 n, .int .u64 v, .slice xp yp zp] 38)
  have hb2 := hb.later A
  have hp2 := hp.later A
  have ht2 := ht.later A
  have C : Hid (Calls Tryd.prog 32 #[.agg #[.int .i64 12, .slice xb yb zb, .int .i64 z, .int .i64 n, .int .u64 v, .slice xp yp zp]] (w.alloc (.cells #[.int .i64 12, .slice xb yb zb, .int .i64 z, .int .i64 n, .int .u64 v, .slice xp yp zp] 38)) _) := strings_12 z n v hb2 ht2 l1
  have HA := Lib.hid A
  clear hb hp ht hb2 hp2 ht2 A
  go_enter Tryd.func15, Tryd.ntmps15
  go_wp2_with fail
  refine C.out.mono ?_
  rintro e w1 ⟨rfl, b1⟩
  have FIN := Lib.hid (HA.out.trans (b1.mono HA.out.size))
  clear C HA b1
  go_wp2
  go_ret
  exact ⟨rfl, FIN.out⟩
set_option maxRecDepth 100000 in
theorem answered_13 {xb xp : Option Addr} {yb zb yp zp : Nat} {z n : Int} {v : Int} {bs : List Nat} {ps : List (List Nat)} {w : World} (hb : Rd w (.slice xb yb zb) bs) (hp : RdP w (.slice xp yp zp) ps) (ht : Tab w) (l1 : bs.length ≤ 1048576) (n1 : n ≤ 9223372036854775807) :
    Calls Tryd.prog 15 #[.agg #[.int .i64 13, .slice xb yb zb, .int .i64 z, .int .i64 n, .int .u64 v, .slice xp yp zp]] w fun e w' => e = .returned (.bool true) ∧ Below w.heap.size w w' := by
  have A := (Below.refl w.heap.size w).alloc (Nat.le_refl _) (.cells #[.int .i64 13, .slice xb yb zb, .int .i64 z, .int .i64 n, .int .u64 v, .slice xp yp zp] 38)
  have hb2 := hb.later A
  have hp2 := hp.later A
  have ht2 := ht.later A
  have C : Hid (Calls Tryd.prog 32 #[.agg #[.int .i64 13, .slice xb yb zb, .int .i64 z, .int .i64 n, .int .u64 v, .slice xp yp zp]] (w.alloc (.cells #[.int .i64 13, .slice xb yb zb, .int .i64 z, .int .i64 n, .int .u64 v, .slice xp yp zp] 38)) _) := strings_13 z n v hb2 ht2 l1
  have HA := Lib.hid A
  clear hb hp ht hb2 hp2 ht2 A
  go_enter Tryd.func15, Tryd.ntmps15
  go_wp2_with fail
  refine C.out.mono ?_
  rintro e w1 ⟨rfl, b1⟩
  have FIN := Lib.hid (HA.out.trans (b1.mono HA.out.size))
  clear C HA b1
  go_wp2
  go_ret
  exact ⟨rfl, FIN.out⟩
set_option maxRecDepth 100000 in
theorem answered_other {xb xp : Option Addr} {yb zb yp zp : Nat} {k z n v : Int} {w : World} (hk : ¬ (1 ≤ k ∧ k ≤ 13)) :
    Calls Tryd.prog 15 #[.agg #[.int .i64 k, .slice xb yb zb, .int .i64 z, .int .i64 n, .int .u64 v, .slice xp yp zp]] w fun e w' => e = .returned (.bool true) ∧ Below w.heap.size w w' := by
  have A := Lib.hid ((Below.refl w.heap.size w).alloc (Nat.le_refl _) (.cells #[.int .i64 k, .slice xb yb zb, .int .i64 z, .int .i64 n, .int .u64 v, .slice xp yp zp] 38))

  have k1 : (k == 1) = false := by simp; omega
  have j1 : ¬ k = 1 := by omega
  have k2 : (k == 2) = false := by simp; omega
  have j2 : ¬ k = 2 := by omega
  have k3 : (k == 3) = false := by simp; omega
  have j3 : ¬ k = 3 := by omega
  have k4 : (k == 4) = false := by simp; omega
  have j4 : ¬ k = 4 := by omega
  have k5 : (k == 5) = false := by simp; omega
  have j5 : ¬ k = 5 := by omega
  have k6 : (k == 6) = false := by simp; omega
  have j6 : ¬ k = 6 := by omega
  have k7 : (k == 7) = false := by simp; omega
  have j7 : ¬ k = 7 := by omega
  have k8 : (k == 8) = false := by simp; omega
  have j8 : ¬ k = 8 := by omega
  have k9 : (k == 9) = false := by simp; omega
  have j9 : ¬ k = 9 := by omega
  have k10 : (k == 10) = false := by simp; omega
  have j10 : ¬ k = 10 := by omega
  have k11 : (k == 11) = false := by simp; omega
  have j11 : ¬ k = 11 := by omega
  have k12 : (k == 12) = false := by simp; omega
  have j12 : ¬ k = 12 := by omega
  have k13 : (k == 13) = false := by simp; omega
  have j13 : ¬ k = 13 := by omega
  clear hk
  go_enter Tryd.func15, Tryd.ntmps15
  go_wp2
  go_ret
  exact ⟨rfl, A.out⟩
/-- Each call's answer is the document's. -/
theorem answered_any {o : OpD} {w : World} (ht : Tab w) (hok : OpD.Ok w o) :
    Calls Tryd.prog 15 #[.agg #[.int .i64 o.k, o.vb, .int .i64 o.z, .int .i64 o.n, .int .u64 o.v, o.vp]] w fun e w' => e = .returned (.bool true) ∧ Below w.heap.size w w' := by
  obtain ⟨hb, hp, l1, l2, l3, v0, v1, z0, z1, n0, n1⟩ := hok
  obtain ⟨k, vb, z, n, v, vp, bs, ps⟩ := o
  simp only at *
  obtain ⟨xb, yb, zb, rfl⟩ := rd_slice hb
  obtain ⟨xp, zp, rfl⟩ : ∃ xp zp, vp = .slice xp ps.length zp := by
    obtain ⟨_, a, c, h, _⟩ := hp
    exact ⟨a, c, h⟩
  by_cases hk : 1 ≤ k ∧ k ≤ 13
  · rcases (show k = 1 ∨ k = 2 ∨ k = 3 ∨ k = 4 ∨ k = 5 ∨ k = 6 ∨ k = 7 ∨ k = 8 ∨ k = 9 ∨ k = 10 ∨ k = 11 ∨ k = 12 ∨ k = 13 by omega) with rfl | rfl | rfl | rfl | rfl | rfl | rfl | rfl | rfl | rfl | rfl | rfl | rfl
    · obtain ⟨v', rfl⟩ := Int.eq_ofNat_of_zero_le v0
      exact answered_1 hb hp ht l1 n1 (by omega)
    · exact answered_2 hb hp ht l1 n1
    · exact answered_3 hb hp ht l1 n1
    · exact answered_4 hb hp ht l1 n1
    · exact answered_5 hb hp ht l1 n1
    · exact answered_6 hb hp ht l1 n1
    · exact answered_7 hb hp ht l1 n1
    · exact answered_8 hb hp ht l1 n1
    · exact answered_9 hb hp ht l1 n1
    · exact answered_10 hb hp ht l1 n1
    · exact answered_11 hb hp ht l1 n1
    · exact answered_12 hb hp ht l1 n1
    · exact answered_13 hb hp ht l1 n1
  · exact answered_other hk

end Go.Proofs.YtledfniedoapiaaDoor

namespace Go.Proofs.YtledfniedoapiaaDoor
open Go.RowKit
set_option linter.unusedVariables false

/-- A desk's box: its room, and how much is lent. -/
def DBox (w : World) (g : Nat) (vR : Value) (n : Nat) : Prop := w.heap[g]? = some (.cells #[vR, .int .i64 (n : Int)] 35 (0, 0))
theorem DBox.later {w w' : World} {g n : Nat} {v : Value} (h : DBox w g v n) (hb : Below w.heap.size w w') : DBox w' g v n := by
  unfold DBox at *
  rw [hb.block g (Array.getElem?_eq_some_iff.1 h).1]; exact h
theorem DBox.r {w : World} {g n : Nat} {v : Value} (h : DBox w g v n) : w.cell? ⟨g, 0, none⟩ = some v := by unfold DBox at h; simp [World.cell?, h]
theorem DBox.n {w : World} {g n : Nat} {v : Value} (h : DBox w g v n) : w.cell? ⟨g, 1, none⟩ = some (.int .i64 (n : Int)) := by unfold DBox at h; simp [World.cell?, h]
theorem DBox.fz {w : World} {g n : Nat} {v : Value} (h : DBox w g v n) (i : Nat) : w.frozen? ⟨g, i, none⟩ = false := by unfold DBox at h; simp [World.frozen?, h]
theorem DBox.setR {w : World} {g n : Nat} {v : Value} (h : DBox w g v n) (x : Value) : DBox (w.setCell ⟨g, 0, none⟩ x) g x n := by
  unfold DBox at *; simp [World.setCell, Array.getElem?_modify, h]
theorem DBox.setN {w : World} {g n : Nat} {v : Value} (h : DBox w g v n) (x : Nat) : DBox (w.setCell ⟨g, 1, none⟩ (.int .i64 (x : Int))) g v x := by
  unfold DBox at *; simp [World.setCell, Array.getElem?_modify, h]
theorem DBox.far {w w' : World} {g n : Nat} {v : Value} {o : Option Nat} (h : DBox w g v n) (k : w.grownBy w' o) (hne : ∀ x, o = some x → g ≠ x) : DBox w' g v n := by
  unfold DBox at *
  rw [k.block g (Array.getElem?_eq_some_iff.1 h).1 (fun e => hne g e.symm rfl)]
  exact h
theorem dbox_own {w : World} {B m g x n : Nat} {v u : Value} {xs : List Nat} (h : DBox w g u n) (o : Own w B v m xs) (hx : v.ownBlock = some x) : g ≠ x := by
  rintro rfl
  rcases o.2.2 with ⟨h1, _⟩ | ⟨g2, cap, cur, h3, _, h5, _⟩
  · rw [h1] at hx; cases hx
  · rw [h3] at hx
    simp only [Value.ownBlock, Option.some.injEq] at hx
    subst hx
    unfold DBox at h
    rw [h5] at h
    simp at h
theorem own_bytes {w : World} {B m g c : Nat} {ys : List Nat} (o : Own w B (.slice (some ⟨g, 0, none⟩) m c) m ys) (hb : Bys ys) {t : Nat} (ht : t < m) : ∃ y : Nat, y < 256 ∧ w.cell? ⟨g, t, none⟩ = some (.int .u8 (y : Int)) ∧ w.frozen? ⟨g, t, none⟩ = false := by
  refine ⟨ys.getD t 0, hb.get t, ?_, o.2.frozenAt t⟩
  rw [o.2.cellAt t (by omega)]
  exact bv_at _ _ (by rw [← o.1]; exact ht)
theorem own_nonil2 {w : World} {B k c : Nat} {a : Option Addr} {xs : List Nat} (o : Own w B (.slice a k c) k xs) : (a = none ∧ k = 0 ∧ c = 0) ∨ ∃ g, a = some ⟨g, 0, none⟩ := by
  rcases o.2.2 with ⟨h1, h2⟩ | ⟨g, cap, cur, h1, _⟩
  · simp only [Value.slice.injEq] at h1
    exact .inl ⟨h1.1, h2, h1.2.2⟩
  · simp only [Value.slice.injEq] at h1
    exact .inr ⟨g, h1.1⟩
theorem own_put {w : World} {B m g c : Nat} {ys : List Nat} (o : Own w B (.slice (some ⟨g, 0, none⟩) m c) m ys) (t v : Nat) : Own (w.setCell ⟨g, t, none⟩ (.int .u8 (v : Int))) B (.slice (some ⟨g, 0, none⟩) m c) m (ys.set t v) := by
  have st := o.2.stored t (.int .u8 (v : Int))
  refine ⟨by simpa using o.1, ?_⟩
  have e : bv (ys.set t v) = (bv ys).set t (.int .u8 (v : Int)) := by simp [bv, List.map_set]
  rw [e]
  exact st.1
theorem bys_set {ys : List Nat} {t v : Nat} (h : Bys ys) (hv : v < 256) : Bys (ys.set t v) := by
  intro x hx
  rcases List.mem_or_eq_of_mem_set hx with h1 | h1
  · exact h x h1
  · rw [h1]; exact hv

theorem xor_full (y : Nat) (hy : y < 256) : ∃ v : Nat, v < 256 ∧ bits .xor .u8 (y : Int) 255 = (v : Int) := ⟨y ^^^ 255, Nat.xor_lt_two_pow (n := 8) hy (by omega), by
  have := u8_xor_nat y 255 hy (by omega)
  exact this⟩

set_option maxRecDepth 100000 in
set_option maxHeartbeats 4000000 in
/-- What was lent is the lender's again: some other bytes lie there. -/
theorem wipe_any {w : World} {g B m c nb : Nat} {a : Option Addr} {ys : List Nat} (hd : DBox w g (.slice a m c) nb) (ho : Own w B (.slice a m c) m ys) (hby : Bys ys) (hn : nb ≤ m) (hm : m ≤ 100000000) :
    Calls Tryd.prog 17 #[.pointer (some ⟨g, 0, none⟩)] w fun e w' => e = .returned (.tuple #[]) ∧ ∃ ys', DBox w' g (.slice a m c) nb ∧ Own w' B (.slice a m c) m ys' ∧ Bys ys' ∧ w.grownBy w' (Value.slice a m c).ownBlock := by
  have HD := Lib.hid hd
  have HO := Lib.hid ho
  have HBY := Lib.hid hby
  clear hd ho hby
  go_enter Tryd.func17, Tryd.ntmps17
  go_wp2
  go_loopw [2] (fun i wr => ∃ t ys', t ≤ nb ∧ i = .int .i64 ((t : Nat) : Int) ∧ Hid (DBox wr g (.slice a m c) nb ∧ Own wr B (.slice a m c) m ys' ∧ Bys ys' ∧ w.grownBy wr (Value.slice a m c).ownBlock)) (fun i _ => nb - (intOf i).toNat)
  case atStart => exact ⟨0, ys, by omega, rfl, HD.out, HO.out, HBY.out, World.grownBy.refl _ _⟩
  case round =>
    obtain ⟨t, ys', ht, rfl, HI⟩ := hrel
    have dn := HI.out.1.n
    have dr := HI.out.1.r
    by_cases hlt : t < nb
    · have hlt2 : (t : Int) < (nb : Int) := by omega
      have ht0 : (0 : Int) ≤ (t : Int) := by omega
      have htm : (t : Int) < (m : Int) := by omega
      rcases own_nonil2 HI.out.2.1 with ⟨_, h0, _⟩ | ⟨gR, rfl⟩
      · omega
      obtain ⟨y, hy, cy, fy⟩ := own_bytes HI.out.2.1 HI.out.2.2.1 (by omega : t < m)
      have hyi : (y : Int) < 256 := by omega
      have hne := dbox_own HI.out.1 HI.out.2.1 rfl
      obtain ⟨v, hv, ev⟩ := xor_full y hy
      go_wp2_with fail
      go_region
      have H2 : Hid (DBox (wr.setCell ⟨gR, t, none⟩ (.int .u8 (v : Int))).drew g (.slice (some ⟨gR, 0, none⟩) m c) nb ∧ Own (wr.setCell ⟨gR, t, none⟩ (.int .u8 (v : Int))).drew B (.slice (some ⟨gR, 0, none⟩) m c) m (ys'.set t v) ∧ Bys (ys'.set t v) ∧ w.grownBy (wr.setCell ⟨gR, t, none⟩ (.int .u8 (v : Int))).drew (Value.slice (some ⟨gR, 0, none⟩) m c).ownBlock) := by
        have sg := set_grown wr gR t (.int .u8 (v : Int))
        have dd : Below (wr.setCell ⟨gR, t, none⟩ (.int .u8 (v : Int))).heap.size (wr.setCell ⟨gR, t, none⟩ (.int .u8 (v : Int))) (wr.setCell ⟨gR, t, none⟩ (.int .u8 (v : Int))).drew := (Below.refl _ _).drew
        obtain ⟨i1, i2, i3, i4⟩ := HI.out
        refine ⟨(i1.far sg (fun x hx => by cases hx; exact hne)).later dd, (own_put i2 t v).later dd, bys_set i3 hv, grown_trans i4 (grown_trans sg (grown_below dd (some gR)) (.inl rfl)) (.inl rfl)⟩
      clear cy fy dn dr HI ev
      go_wp2
      go_roundw
      case rel => exact ⟨t + 1, _, by omega, by go_num, H2⟩
      case measure => simp [intOf]; omega
    · have hge : (nb : Int) ≤ (t : Int) := by omega
      go_wp2
      refine bodyPost_end (v := .tuple #[]) (by first | rfl | kernel_rfl) rfl ?_
      exact ⟨rfl, ys', HI.out⟩

end Go.Proofs.YtledfniedoapiaaDoor
