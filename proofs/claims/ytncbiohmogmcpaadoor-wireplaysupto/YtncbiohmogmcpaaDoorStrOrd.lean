import Derived.Test.YtncbiohmogmcpaaDoorRefOrd
import Derived.Test.YtncbiohmogmcpaaDoorRoomy
import Derived.Deep.RegionHeld3
namespace Go.Proofs.YtncbiohmogmcpaaDoor
open Go.RowKit
set_option linter.unusedVariables false

theorem rord_ok : ∀ (m : Nat) (l acc : List Nat) (i : Nat), l.length ≤ m → Bys l → Bys acc → Bys (rord l acc i).1 ∧ (rord l acc i).1.length ≤ acc.length + l.length := by
  intro m
  induction m with
  | zero =>
    intro l acc i hl hb ha
    obtain rfl : l = [] := List.eq_nil_of_length_eq_zero (by omega)
    rw [rord_nil]
    exact ⟨fun x hx => by simp at hx, by simp⟩
  | succ m ih =>
    intro l acc i hl hb ha
    cases l with
    | nil => rw [rord_nil]; exact ⟨fun x hx => by simp at hx, by simp⟩
    | cons c r =>
      by_cases hc : c = 0
      · subst hc
        cases r with
        | nil => exact ⟨fun x hx => by simp [rord] at hx, by simp [rord]⟩
        | cons d r =>
          rw [rord_zero]
          split
          · exact ⟨ha, by simp⟩
          · split
            · obtain ⟨h1, h2⟩ := ih r (acc ++ [0]) (i + 2) (by simp at hl; omega) (fun x hx => hb x (by simp [hx])) (ha.app (fun x hx => by simp at hx; omega))
              exact ⟨h1, by simp at h2 ⊢; omega⟩
            · exact ⟨fun x hx => by simp at hx, by simp⟩
      · rw [rord_step _ _ _ _ hc]
        obtain ⟨h1, h2⟩ := ih r (acc ++ [c]) (i + 1) (by simp at hl; omega) (fun x hx => hb x (by simp [hx])) (ha.app (fun x hx => by simp at hx; subst hx; exact hb _ (by simp)))
        exact ⟨h1, by simp at h2 ⊢; omega⟩
theorem ordR_ok (bs : List Nat) (k : Nat) (hb : Bys bs) : Bys (ordR bs k).1 ∧ (ordR bs k).1.length ≤ bs.length := by
  obtain ⟨h1, h2⟩ := rord_ok _ (bs.drop k) [] 0 (Nat.le_refl _) (fun x hx => hb x (List.mem_of_mem_drop hx)) (fun x hx => by simp at hx)
  exact ⟨h1, by have : (ordR bs k).1 = (rord (bs.drop k) [] 0).1 := rfl; rw [this]; simp at h2; omega⟩

/-- What ReadOrdered answers, whatever the place. -/
def ordZ (bs : List Nat) (z : Int) : List Nat × Nat × Nat := if z < 0 ∨ (bs.length : Int) < z then ([], 0, 1) else ordR bs z.toNat
theorem ordZ_ok (bs : List Nat) (z : Int) (hb : Bys bs) : Bys (ordZ bs z).1 ∧ (ordZ bs z).1.length ≤ bs.length := by
  unfold ordZ
  split
  · exact ⟨fun x hx => by simp at hx, by simp⟩
  · exact ordR_ok bs _ hb
theorem place (bs : List Nat) (z : Int) : (z < 0 ∨ (bs.length : Int) < z) ∨ ∃ k : Nat, z = (k : Int) ∧ k ≤ bs.length ∧ ¬ (z < 0 ∨ (bs.length : Int) < z) := by
  by_cases h : z < 0 ∨ (bs.length : Int) < z
  · exact .inl h
  · exact .inr ⟨z.toNat, by omega, by omega, h⟩
theorem readOrdered_p {v : Value} {bs : List Nat} {w : World} (hr : Rd w v bs) (z : Int) (h47 : bs.length ≤ 140737488355328) {L : List Nat} {P E : Nat} (h : ordZ bs z = (L, P, E)) :
    Calls Tryd.prog 48 #[v, .int .i64 z] w fun e w' => ∃ a m c, e = .returned (.tuple #[.slice a m c, .int .i64 (P : Int), .int .i64 (E : Int)]) ∧ Rd w' (.slice a m c) L ∧ Below w.heap.size w w' := by
  rcases place bs z with h0 | ⟨k, rfl, hk, h0⟩
  · rw [ordZ, if_pos h0] at h
    cases h
    refine (readOrdered_out hr z h0).mono ?_
    rintro e w' ⟨rfl, rfl⟩
    exact ⟨none, 0, 0, rfl, Rd.nil _, Below.refl _ _⟩
  · have hok := ordR_ok bs k hr.1
    rw [ordZ, if_neg h0, Int.toNat_natCast] at h
    refine (readOrdered_in hr k hk h47).mono ?_
    rintro e w' ⟨a, m, c, rfl, own, hb⟩
    rw [h] at own hok ⊢
    exact ⟨a, m, c, rfl, own.rd hok.1 (by rw [own.1]; have := hok.2; simp at this; omega), hb⟩
theorem refReadOrdered_p {v : Value} {bs : List Nat} {w : World} (hr : Rd w v bs) (z : Int) (h47 : bs.length ≤ 140737488355328) {L : List Nat} {P E : Nat} (h : ordZ bs z = (L, P, E)) :
    Calls Tryd.prog 44 #[v, .int .i64 z] w fun e w' => ∃ a m c, e = .returned (.tuple #[.slice a m c, .int .i64 (P : Int), .int .i64 (E : Int)]) ∧ Rd w' (.slice a m c) L ∧ Below w.heap.size w w' := by
  rcases place bs z with h0 | ⟨k, rfl, hk, h0⟩
  · rw [ordZ, if_pos h0] at h
    cases h
    refine (refReadOrdered_out hr z h0).mono ?_
    rintro e w' ⟨rfl, rfl⟩
    exact ⟨none, 0, 0, rfl, Rd.nil _, Below.refl _ _⟩
  · have hok := ordR_ok bs k hr.1
    rw [ordZ, if_neg h0, Int.toNat_natCast] at h
    refine (refReadOrdered_in hr k hk h47).mono ?_
    rintro e w' ⟨a, m, c, rfl, own, hb⟩
    rw [h] at own hok ⊢
    exact ⟨a, m, c, rfl, own.rd hok.1 (by rw [own.1]; have := hok.2; simp at this; omega), hb⟩

set_option maxRecDepth 100000 in
set_option maxHeartbeats 4000000 in
theorem strings_10 {vb vp : Value} {bs : List Nat} {w : World} (z nn vv : Int) (hb : Rd w vb bs) (hl : bs.length ≤ 1048576) :
    Calls Tryd.prog 36 #[.agg #[.int .i64 10, vb, .int .i64 z, .int .i64 nn, .int .u64 vv, vp]] w fun e w' => e = .returned (.bool true) ∧ Below w.heap.size w w' := by
  obtain ⟨ab, nb, capb, rfl⟩ := rd_slice hb
  obtain ⟨R, hR⟩ : ∃ R, R = ordZ bs z := ⟨_, rfl⟩
  obtain ⟨L, P, E⟩ := R
  have HR : Hid (ordZ bs z = (L, P, E)) := hR.symm
  have HL : Hid (bs.length ≤ 1048576) := hl
  clear hR hl
  have A1 := (Below.refl w.heap.size w).alloc (Nat.le_refl _) (.cells #[.int .i64 10, .slice ab nb capb, .int .i64 z, .int .i64 nn, .int .u64 vv, vp] 34)
  have bx1 : Hid (Box (w.alloc (.cells #[.int .i64 10, .slice ab nb capb, .int .i64 z, .int .i64 nn, .int .u64 vv, vp] 34)) w.heap.size 10 (.slice ab nb capb) z nn vv vp) := Box.new w 10 (.slice ab nb capb) z nn vv vp
  have rb1 := hb.later A1
  go_enter Tryd.func36, Tryd.ntmps36
  go_wp2_with fail
  refine (readOrdered_p rb1 z (by have := HL.out; omega) HR.out).mono ?_
  rintro e w2 ⟨a2, m2, c2, rfl, r2, hb2⟩
  have bx2 : Hid (Box w2 w.heap.size 10 (.slice ab nb capb) z nn vv vp) := bx1.out.later hb2
  have hxb := bx2.out.b
  have hxz := bx2.out.z
  have B2 := A1.trans (hb2.mono A1.size)
  have rb2 := hb.later B2
  clear hb2 A1 bx1 rb1
  go_wp2_with fail
  refine (refReadOrdered_p rb2 z (by have := HL.out; omega) HR.out).mono ?_
  rintro e w3 ⟨a3, m3, c3, rfl, r3, hb3⟩
  have r23 := r2.later hb3
  have B3 := B2.trans (hb3.mono B2.size)
  clear hb3 B2 bx2 hxb hxz r2
  go_wp2_with fail
  refine (same_any r23 r3).mono ?_
  rintro e w4 ⟨rfl, rfl⟩
  rw [decide_eq_true rfl]
  go_wp2_with fail
  refine (num_any _ _).mono ?_
  rintro e w5 ⟨rfl, rfl⟩
  go_wp2
  go_ret
  exact ⟨by simp, B3⟩

set_option maxRecDepth 100000 in
set_option maxHeartbeats 4000000 in
theorem strings_9 {vb vp : Value} {bs : List Nat} {w : World} (z nn vv : Int) (hb : Rd w vb bs) (hl : bs.length ≤ 1048576) :
    Calls Tryd.prog 36 #[.agg #[.int .i64 9, vb, .int .i64 z, .int .i64 nn, .int .u64 vv, vp]] w fun e w' => e = .returned (.bool true) ∧ Below w.heap.size w w' := by
  obtain ⟨ab, nb, capb, rfl⟩ := rd_slice hb
  have HOL : Hid ((ordL bs).length ≤ 4194304) := by
    unfold Hid
    have h1 := ordL_len bs
    have h2 : bs.count 0 ≤ bs.length := List.count_le_length
    omega
  have HBY : Hid (Bys (ordL bs)) := ordL_bys bs hb.1
  clear hl
  have A1 : Below w.heap.size w (w.alloc (.cells #[.int .i64 9, .slice ab nb capb, .int .i64 z, .int .i64 nn, .int .u64 vv, vp] 34)) := (Below.refl w.heap.size w).alloc (Nat.le_refl _) _
  have bx1 : Hid (Box (w.alloc (.cells #[.int .i64 9, .slice ab nb capb, .int .i64 z, .int .i64 nn, .int .u64 vv, vp] 34)) w.heap.size 9 (.slice ab nb capb) z nn vv vp) := Box.new w 9 (.slice ab nb capb) z nn vv vp
  have BD : Below w.heap.size w (w.alloc (.cells #[.int .i64 9, .slice ab nb capb, .int .i64 z, .int .i64 nn, .int .u64 vv, vp] 34)).drew := A1.trans ((Below.refl _ _).drew.mono A1.size)
  have bxD : Hid (Box (w.alloc (.cells #[.int .i64 9, .slice ab nb capb, .int .i64 z, .int .i64 nn, .int .u64 vv, vp] 34)).drew w.heap.size 9 (.slice ab nb capb) z nn vv vp) := bx1.out
  have hcD : (w.alloc (.cells #[.int .i64 9, .slice ab nb capb, .int .i64 z, .int .i64 nn, .int .u64 vv, vp] 34)).drew.cell? ⟨w.heap.size, 1, none⟩ = some (.slice ab nb capb) := bxD.out.b
  have HRB : Hid (Rd w (.slice ab nb capb) bs) := hb
  clear hb
  go_enter Tryd.func36, Tryd.ntmps36
  go_wp2_with fail
  go_region_held3 (fun wx => wx.cell? ⟨w.heap.size, 1, none⟩ = some (.slice ab nb capb) ∧ Below w.heap.size w wx) (first | exact ⟨hcD, BD⟩ | exact ⟨hcA, hbA⟩ | exact ⟨hcB, hbB⟩ | assumption) (first | (go_at_call 69; refine (ordered_any (HRB.out.later BD) (by have := HOL.out; omega)).mono ?_; rintro e wa ⟨aa, ma, ca, rfl, owna, hba⟩; have ra := owna.rd HBY.out (by rw [owna.1]; have := HOL.out; omega); have hbA : Below w.heap.size w wa := BD.trans (hba.mono BD.size); have bxA : Hid (Box wa w.heap.size 9 (.slice ab nb capb) z nn vv vp) := bxD.out.later hba; have hcA := bxA.out.b; clear owna hba) | (go_at_call 41; refine (refOrdered_any (HRB.out.later hbA) (by have := HOL.out; omega)).mono ?_; rintro e wb ⟨ab2, mb2, cb2, rfl, ownb, hbb⟩; have rb := ownb.rd HBY.out (by rw [ownb.1]; have := HOL.out; omega); have hbB : Below w.heap.size w wb := hbA.trans (hbb.mono hbA.size); have bxB : Hid (Box wb w.heap.size 9 (.slice ab nb capb) z nn vv vp) := bxA.out.later hbb; have hcB := bxB.out.b; have ra2 := ra.later hbb; clear ownb hbb ra) | (go_at_call 23; refine (same_any ra2 rb).mono ?_; rintro e wz ⟨rfl, rfl⟩))
  go_wp2
  go_ret
  exact ⟨rfl, by assumption⟩

end Go.Proofs.YtncbiohmogmcpaaDoor
