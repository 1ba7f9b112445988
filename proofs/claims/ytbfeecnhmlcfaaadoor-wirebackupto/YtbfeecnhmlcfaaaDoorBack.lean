import Derived.Test.YtbfeecnhmlcfaaaDoorReads
import Derived.Test.YtbfeecnhmlcfaaaDoorWritten
import Derived.OpenShut
import Derived.Deep.DeepCutAuto
import Derived.Deep.RegionHeld3
namespace Go.Proofs.YtbfeecnhmlcfaaaDoor
open Go.RowKit
set_option linter.unusedVariables false

theorem i64_id (z : Int) (q : Nat) (h : z = (q : Int)) (hq : q < 9223372036854775808) : IntKind.i64.wrap z = (q : Int) := by
  subst h
  simp only [IntKind.wrap, IntKind.bits, IntKind.signed]
  simp
  omega
theorem reads_at {va vb : Value} {w : World} {Q : Ending → World → Prop} {k v n q e : Int} (k' v' n' e' : Int) (hk : k = k') (hv : v = v') (hn : n = n') (he : e = e') (h : Calls Tryd.prog 36 #[va, .int .i64 k', .int .u64 v', .int .i64 n', vb, .int .i64 q, .int .i64 e'] w Q) :
    Calls Tryd.prog 36 #[va, .int .i64 k, .int .u64 v, .int .i64 n, vb, .int .i64 q, .int .i64 e] w Q := by
  subst hk hv hn he; exact h

set_option maxRecDepth 100000 in
set_option maxHeartbeats 4000000 in
theorem back_walk {v : Nat} (hv : v < 18446744073709551616) {vb vx vy : Value} {bs xs ys : List Nat} {w : World} (hb : Rd w vb bs) (hx : Rd w vx xs) (hy : Rd w vy ys) (ht : Tab w) (hl : bs.length ≤ 1048576) (hlx : xs.length ≤ 1048576) (hly : ys.length ≤ 1048576) :
    Calls Tryd.prog 10 #[.int .u64 (v : Int), vb, vx, vy] w fun e w' => e = .returned (.bool true) ∧ Below w.heap.size w w' := by
  obtain ⟨a, n, cap, rfl⟩ := rd_slice hb
  obtain ⟨hn, hle, hm, hl48⟩ := rd_lens hb
  rw [← hn] at hl
  have HN : Hid (n = bs.length) := hn
  have HORD : Hid ((ordL bs).length ≤ 4194304) := by
    unfold Hid
    have h1 := ordL_len bs
    have h2 : bs.count 0 ≤ bs.length := List.count_le_length
    omega
  clear hn
  obtain ⟨ax, nx, cx, rfl⟩ := rd_slice hx
  obtain ⟨hnx, hlex, hmx, hl48x⟩ := rd_lens hx
  obtain ⟨ay, ny, cy, rfl⟩ := rd_slice hy
  obtain ⟨hny, hley, hmy, hl48y⟩ := rd_lens hy
  rw [← hnx] at hlx
  rw [← hny] at hly
  have HNX : Hid (nx = xs.length) := hnx
  have HNY : Hid (ny = ys.length) := hny
  clear hnx hny
  have HDIV : Hid (((v : Int) / 2) = ((v / 2 : Nat) : Int)) := by unfold Hid; omega
  have HV2 : Hid (v / 2 < 9223372036854775808) := by unfold Hid; omega
  go_enter Tryd.func10, Tryd.ntmps10
  go_wp2_with fail
  refine (written_any v hv hb ht (by rw [← HN.out]; exact hl)).mono ?_
  rintro e w1 ⟨g, c, rfl, ⟨u0, u1, u2, u3, u4, u5, hcell, r0, r1, r2, r3, r4, r5⟩, hb1⟩
  have hs1 := hb1.size
  have HC : Hid (∀ (j : Nat) (x : Value), [u0, Value.int IntKind.i64 2, u1, Value.int IntKind.i64 6, u2, Value.int IntKind.i64 8, u3, Value.int IntKind.i64 4, u4, Value.int IntKind.i64 10, u5, Value.int IntKind.i64 13][j]? = some x → w1.cell? { block := g, off := j } = some x) := hcell
  clear hcell
  have ht1 := ht.later hb1
  go_wp2
  go_loopw [10] (fun i wr => ∃ t : Nat, t ≤ 6 ∧ i = .int .i64 (t : Int) ∧ Below w1.heap.size w1 wr) (fun i _ => 6 - (intOf i).toNat)
  case atStart => exact ⟨0, Nat.zero_le _, rfl, Below.refl _ _⟩
  case round =>
    obtain ⟨t, ht6, rfl, hbr⟩ := hrel
    by_cases hlt : t < 6
    · have cellr : ∀ (j : Nat) (x : Value), w1.cell? ⟨g, j, none⟩ = some x → wr.cell? ⟨g, j, none⟩ = some x := by
        intro j x h
        rw [hbr.cell (p := ⟨g, j, none⟩) (World.block_lt_of_cell? w1 _ h)]; exact h
      have hsr := hbr.size
      have hbw := hb1.trans (hbr.mono hs1)
      have rb := hb.later hbw
      have rx := hx.later hbw
      have ry := hy.later hbw
      have htr := ht1.later hbr
      rcases (show t = 0 ∨ t = 1 ∨ t = 2 ∨ t = 3 ∨ t = 4 ∨ t = 5 by omega) with rfl | rfl | rfl | rfl | rfl | rfl
      · have hlen : 1 ≤ (uintL v).length ∧ (uintL v).length ≤ 4194304 := (by have := uintL_len v; omega)
        have HBL : Hid (Bys (uintL v)) := uintL_bys v hv
        have HR : Hid (uintR (xs ++ (uintL v ++ ys)) xs.length = (v, xs.length + (uintL v).length, 0)) := uint_trip v hv xs ys
        obtain ⟨au, nu, cu, rfl⟩ := rd_slice r0
        obtain ⟨hnu, hleu, hmu, hl48u⟩ := rd_lens r0
        unfold maxLen at hmu
        rw [← hnu] at hlen
        have HNU : Hid (nu = (uintL v).length) := hnu
        clear hnu
        have hc0 := cellr _ _ (HC.out 0 _ rfl)
        have hc1 := cellr _ _ (HC.out 1 _ rfl)
        have ru := r0.later hbr
        have hnz : ¬ ((nu : Int) = 0) := by omega
        have hnz2 : ¬ (nu = 0) := by omega
        have hnz3 : ((nu : Int) == 0) = false := by simp; omega
        clear r0 r1 r2 r3 r4 r5 cellr
        have HFL : Hid ([xs, uintL v, ys].flatten = xs ++ (uintL v ++ ys)) := by unfold Hid; simp
        have HAL : Hid ((xs ++ (uintL v ++ ys)).length ≤ 140737488355328) := by
          unfold Hid
          rw [List.length_append, List.length_append, ← HNX.out, ← HNY.out, ← HNU.out]
          omega
        have hp := rdp_three rx ru ry _ rfl
        have B2 := (Below.refl wr.heap.size wr).alloc (Nat.le_refl _) (.cells #[.slice ax nx cx, .slice au nu cu, .slice ay ny cy] 22)
        go_wp2_with fail
        refine (join_any hp (by rw [HFL.out]; exact HAL.out)).mono ?_
        rintro e w2 ⟨a2, m2, c2, rfl, own2, hb2⟩
        rw [HFL.out] at own2
        have ra := own2.rd (hx.1.app (HBL.out.app hy.1)) (by rw [own2.1]; exact Nat.le_trans HAL.out (by omega))
        have Bw : Below wr.heap.size wr w2 := B2.trans (hb2.mono B2.size)
        have hc0 : w2.cell? ⟨g, 0, none⟩ = some (.slice au nu cu) := by rw [Bw.cell (p := ⟨g, 0, none⟩) (World.block_lt_of_cell? wr _ hc0)]; exact hc0
        have hc1 : w2.cell? ⟨g, 1, none⟩ = some (.int .i64 2) := by rw [Bw.cell (p := ⟨g, 1, none⟩) (World.block_lt_of_cell? wr _ hc1)]; exact hc1
        have rb2 := rb.later Bw
        have ht2 := htr.later Bw
        have hsw := Bw.size
        have BD : Below w2.heap.size w2 w2.drew := (Below.refl _ w2).drew
        have raD := ra.later BD
        have rbD := rb2.later BD
        have htD := ht2.later BD
        have HEND : Hid (IntKind.i64.wrap ((nx : Int) + (nu : Int)) = ((xs.length + (uintL v).length : Nat) : Int)) := i64_id _ _ (by rw [← HNX.out, ← HNU.out]; omega) (by rw [← HNX.out, ← HNU.out]; omega)
        have hcD0 : w2.drew.cell? ⟨g, 0, none⟩ = some (.slice au nu cu) := (BD.cell (p := ⟨g, 0, none⟩) (World.block_lt_of_cell? w2 _ hc0)).trans hc0
        have hcD1 : w2.drew.cell? ⟨g, 1, none⟩ = some (.int .i64 2) := (BD.cell (p := ⟨g, 1, none⟩) (World.block_lt_of_cell? w2 _ hc1)).trans hc1
        have HC0 : Hid (w2.drew.cell? ⟨g, 0, none⟩ = some (.slice au nu cu)) := hcD0
        have HC1 : Hid (w2.drew.cell? ⟨g, 1, none⟩ = some (.int .i64 2)) := hcD1
        have BwD := Bw.trans (BD.mono hsw)
        clear BD hcD0 hcD1
        clear own2 hb2 B2 hp
        go_wp2_with fail
        go_region_held3 (fun w' => w'.cell? ⟨g, 0, none⟩ = some (.slice au nu cu) ∧ w'.cell? ⟨g, 1, none⟩ = some (.int .i64 2)) (first | exact ⟨hc0, hc1⟩ | exact ⟨hc0', hc1'⟩) (first | (go_at_call 36; refine (reads_at ((xs.length : Nat) : Int) _ _ ((xs.length + (uintL v).length : Nat) : Int) (by rw [← HNX.out]) rfl rfl HEND.out (reads_uint raD xs.length (by rw [List.length_append]; omega) HR.out _)).mono ?_; rintro e w3 ⟨rfl, hb3⟩; have hc0' : w3.cell? ⟨g, 0, none⟩ = some (.slice au nu cu) := (hb3.cell (p := ⟨g, 0, none⟩) (World.block_lt_of_cell? _ _ HC0.out)).trans HC0.out; have hc1' : w3.cell? ⟨g, 1, none⟩ = some (.int .i64 2) := (hb3.cell (p := ⟨g, 1, none⟩) (World.block_lt_of_cell? _ _ HC1.out)).trans HC1.out))
        have Bw3 := BwD.trans (hb3.mono hsw)
        have hb9 := hbr.trans (Bw3.mono hsr)
        clear hb3 Bw Bw3 BwD
        go_wp2
        go_roundw
        case rel => exact ⟨1, by omega, by go_num, hb9⟩
        case measure => simp [intOf]
      · have hlen : 1 ≤ (be8 (v / 2)).length ∧ (be8 (v / 2)).length ≤ 4194304 := (by simp [be8])
        have HBL : Hid (Bys (be8 (v / 2))) := be8_bys _
        have HR : Hid (riseR (xs ++ (be8 (v / 2) ++ ys)) xs.length = (v / 2, xs.length + 8, 0)) := rise_trip _ HV2.out xs ys
        obtain ⟨au, nu, cu, rfl⟩ := rd_slice r1
        obtain ⟨hnu, hleu, hmu, hl48u⟩ := rd_lens r1
        unfold maxLen at hmu
        rw [← hnu] at hlen
        have HNU : Hid (nu = (be8 (v / 2)).length) := hnu
        clear hnu
        have hc0 := cellr _ _ (HC.out 2 _ rfl)
        have hc1 := cellr _ _ (HC.out 3 _ rfl)
        have ru := r1.later hbr
        have hnz : ¬ ((nu : Int) = 0) := by omega
        have hnz2 : ¬ (nu = 0) := by omega
        have hnz3 : ((nu : Int) == 0) = false := by simp; omega
        clear r0 r1 r2 r3 r4 r5 cellr
        have HFL : Hid ([xs, be8 (v / 2), ys].flatten = xs ++ (be8 (v / 2) ++ ys)) := by unfold Hid; simp
        have HAL : Hid ((xs ++ (be8 (v / 2) ++ ys)).length ≤ 140737488355328) := by
          unfold Hid
          rw [List.length_append, List.length_append, ← HNX.out, ← HNY.out, ← HNU.out]
          omega
        have hp := rdp_three rx ru ry _ rfl
        have B2 := (Below.refl wr.heap.size wr).alloc (Nat.le_refl _) (.cells #[.slice ax nx cx, .slice au nu cu, .slice ay ny cy] 22)
        go_wp2_with fail
        refine (join_any hp (by rw [HFL.out]; exact HAL.out)).mono ?_
        rintro e w2 ⟨a2, m2, c2, rfl, own2, hb2⟩
        rw [HFL.out] at own2
        have ra := own2.rd (hx.1.app (HBL.out.app hy.1)) (by rw [own2.1]; exact Nat.le_trans HAL.out (by omega))
        have Bw : Below wr.heap.size wr w2 := B2.trans (hb2.mono B2.size)
        have hc0 : w2.cell? ⟨g, 2, none⟩ = some (.slice au nu cu) := by rw [Bw.cell (p := ⟨g, 2, none⟩) (World.block_lt_of_cell? wr _ hc0)]; exact hc0
        have hc1 : w2.cell? ⟨g, 3, none⟩ = some (.int .i64 6) := by rw [Bw.cell (p := ⟨g, 3, none⟩) (World.block_lt_of_cell? wr _ hc1)]; exact hc1
        have rb2 := rb.later Bw
        have ht2 := htr.later Bw
        have hsw := Bw.size
        have BD : Below w2.heap.size w2 w2.drew := (Below.refl _ w2).drew
        have raD := ra.later BD
        have rbD := rb2.later BD
        have htD := ht2.later BD
        have HEND : Hid (IntKind.i64.wrap ((nx : Int) + (nu : Int)) = ((xs.length + 8 : Nat) : Int)) := i64_id _ _ (by have := HNU.out; simp [be8] at this; rw [← HNX.out, this]; omega) (by rw [← HNX.out]; omega)
        have hcD0 : w2.drew.cell? ⟨g, 2, none⟩ = some (.slice au nu cu) := (BD.cell (p := ⟨g, 2, none⟩) (World.block_lt_of_cell? w2 _ hc0)).trans hc0
        have hcD1 : w2.drew.cell? ⟨g, 3, none⟩ = some (.int .i64 6) := (BD.cell (p := ⟨g, 3, none⟩) (World.block_lt_of_cell? w2 _ hc1)).trans hc1
        have HC0 : Hid (w2.drew.cell? ⟨g, 2, none⟩ = some (.slice au nu cu)) := hcD0
        have HC1 : Hid (w2.drew.cell? ⟨g, 3, none⟩ = some (.int .i64 6)) := hcD1
        have BwD := Bw.trans (BD.mono hsw)
        clear BD hcD0 hcD1
        clear own2 hb2 B2 hp
        go_wp2_with fail
        go_region_held3 (fun w' => w'.cell? ⟨g, 2, none⟩ = some (.slice au nu cu) ∧ w'.cell? ⟨g, 3, none⟩ = some (.int .i64 6)) (first | exact ⟨hc0, hc1⟩ | exact ⟨hc0', hc1'⟩) (first | (go_at_call 36; refine (reads_at ((xs.length : Nat) : Int) _ ((v / 2 : Nat) : Int) ((xs.length + 8 : Nat) : Int) (by rw [← HNX.out]) rfl (i64_id _ _ HDIV.out HV2.out) HEND.out (reads_rise raD xs.length (by rw [List.length_append]; omega) HR.out _ _ rfl)).mono ?_; rintro e w3 ⟨rfl, hb3⟩; have hc0' : w3.cell? ⟨g, 2, none⟩ = some (.slice au nu cu) := (hb3.cell (p := ⟨g, 2, none⟩) (World.block_lt_of_cell? _ _ HC0.out)).trans HC0.out; have hc1' : w3.cell? ⟨g, 3, none⟩ = some (.int .i64 6) := (hb3.cell (p := ⟨g, 3, none⟩) (World.block_lt_of_cell? _ _ HC1.out)).trans HC1.out))
        have Bw3 := BwD.trans (hb3.mono hsw)
        have hb9 := hbr.trans (Bw3.mono hsr)
        clear hb3 Bw Bw3 BwD
        go_wp2
        go_roundw
        case rel => exact ⟨2, by omega, by go_num, hb9⟩
        case measure => simp [intOf]
      · have hlen : 1 ≤ (be8 (9223372036854775807 - v / 2)).length ∧ (be8 (9223372036854775807 - v / 2)).length ≤ 4194304 := (by simp [be8])
        have HBL : Hid (Bys (be8 (9223372036854775807 - v / 2))) := be8_bys _
        have HR : Hid (fallR (xs ++ (be8 (9223372036854775807 - v / 2) ++ ys)) xs.length = (v / 2, xs.length + 8, 0)) := fall_trip _ HV2.out xs ys
        obtain ⟨au, nu, cu, rfl⟩ := rd_slice r2
        obtain ⟨hnu, hleu, hmu, hl48u⟩ := rd_lens r2
        unfold maxLen at hmu
        rw [← hnu] at hlen
        have HNU : Hid (nu = (be8 (9223372036854775807 - v / 2)).length) := hnu
        clear hnu
        have hc0 := cellr _ _ (HC.out 4 _ rfl)
        have hc1 := cellr _ _ (HC.out 5 _ rfl)
        have ru := r2.later hbr
        have hnz : ¬ ((nu : Int) = 0) := by omega
        have hnz2 : ¬ (nu = 0) := by omega
        have hnz3 : ((nu : Int) == 0) = false := by simp; omega
        clear r0 r1 r2 r3 r4 r5 cellr
        have HFL : Hid ([xs, be8 (9223372036854775807 - v / 2), ys].flatten = xs ++ (be8 (9223372036854775807 - v / 2) ++ ys)) := by unfold Hid; simp
        have HAL : Hid ((xs ++ (be8 (9223372036854775807 - v / 2) ++ ys)).length ≤ 140737488355328) := by
          unfold Hid
          rw [List.length_append, List.length_append, ← HNX.out, ← HNY.out, ← HNU.out]
          omega
        have hp := rdp_three rx ru ry _ rfl
        have B2 := (Below.refl wr.heap.size wr).alloc (Nat.le_refl _) (.cells #[.slice ax nx cx, .slice au nu cu, .slice ay ny cy] 22)
        go_wp2_with fail
        refine (join_any hp (by rw [HFL.out]; exact HAL.out)).mono ?_
        rintro e w2 ⟨a2, m2, c2, rfl, own2, hb2⟩
        rw [HFL.out] at own2
        have ra := own2.rd (hx.1.app (HBL.out.app hy.1)) (by rw [own2.1]; exact Nat.le_trans HAL.out (by omega))
        have Bw : Below wr.heap.size wr w2 := B2.trans (hb2.mono B2.size)
        have hc0 : w2.cell? ⟨g, 4, none⟩ = some (.slice au nu cu) := by rw [Bw.cell (p := ⟨g, 4, none⟩) (World.block_lt_of_cell? wr _ hc0)]; exact hc0
        have hc1 : w2.cell? ⟨g, 5, none⟩ = some (.int .i64 8) := by rw [Bw.cell (p := ⟨g, 5, none⟩) (World.block_lt_of_cell? wr _ hc1)]; exact hc1
        have rb2 := rb.later Bw
        have ht2 := htr.later Bw
        have hsw := Bw.size
        have BD : Below w2.heap.size w2 w2.drew := (Below.refl _ w2).drew
        have raD := ra.later BD
        have rbD := rb2.later BD
        have htD := ht2.later BD
        have HEND : Hid (IntKind.i64.wrap ((nx : Int) + (nu : Int)) = ((xs.length + 8 : Nat) : Int)) := i64_id _ _ (by have := HNU.out; simp [be8] at this; rw [← HNX.out, this]; omega) (by rw [← HNX.out]; omega)
        have hcD0 : w2.drew.cell? ⟨g, 4, none⟩ = some (.slice au nu cu) := (BD.cell (p := ⟨g, 4, none⟩) (World.block_lt_of_cell? w2 _ hc0)).trans hc0
        have hcD1 : w2.drew.cell? ⟨g, 5, none⟩ = some (.int .i64 8) := (BD.cell (p := ⟨g, 5, none⟩) (World.block_lt_of_cell? w2 _ hc1)).trans hc1
        have HC0 : Hid (w2.drew.cell? ⟨g, 4, none⟩ = some (.slice au nu cu)) := hcD0
        have HC1 : Hid (w2.drew.cell? ⟨g, 5, none⟩ = some (.int .i64 8)) := hcD1
        have BwD := Bw.trans (BD.mono hsw)
        clear BD hcD0 hcD1
        clear own2 hb2 B2 hp
        go_wp2_with fail
        go_region_held3 (fun w' => w'.cell? ⟨g, 4, none⟩ = some (.slice au nu cu) ∧ w'.cell? ⟨g, 5, none⟩ = some (.int .i64 8)) (first | exact ⟨hc0, hc1⟩ | exact ⟨hc0', hc1'⟩) (first | (go_at_call 36; refine (reads_at ((xs.length : Nat) : Int) _ ((v / 2 : Nat) : Int) ((xs.length + 8 : Nat) : Int) (by rw [← HNX.out]) rfl (i64_id _ _ HDIV.out HV2.out) HEND.out (reads_fall raD xs.length (by rw [List.length_append]; omega) HR.out _ _ rfl)).mono ?_; rintro e w3 ⟨rfl, hb3⟩; have hc0' : w3.cell? ⟨g, 4, none⟩ = some (.slice au nu cu) := (hb3.cell (p := ⟨g, 4, none⟩) (World.block_lt_of_cell? _ _ HC0.out)).trans HC0.out; have hc1' : w3.cell? ⟨g, 5, none⟩ = some (.int .i64 8) := (hb3.cell (p := ⟨g, 5, none⟩) (World.block_lt_of_cell? _ _ HC1.out)).trans HC1.out))
        have Bw3 := BwD.trans (hb3.mono hsw)
        have hb9 := hbr.trans (Bw3.mono hsr)
        clear hb3 Bw Bw3 BwD
        go_wp2
        go_roundw
        case rel => exact ⟨3, by omega, by go_num, hb9⟩
        case measure => simp [intOf]
      · have hlen : 1 ≤ (bytesL bs).length ∧ (bytesL bs).length ≤ 4194304 := (by have := uintL_len bs.length; have := HN.out; unfold bytesL; rw [List.length_append]; omega)
        have HBL : Hid (Bys (bytesL bs)) := (uintL_bys _ (by rw [← HN.out]; omega)).app hb.1
        have HR : Hid (bytesR (xs ++ (bytesL bs ++ ys)) xs.length bs.length = (bs, xs.length + (bytesL bs).length, 0)) := bytes_trip bs (by rw [← HN.out]; omega) _ (Nat.le_refl _) xs ys
        obtain ⟨au, nu, cu, rfl⟩ := rd_slice r3
        obtain ⟨hnu, hleu, hmu, hl48u⟩ := rd_lens r3
        unfold maxLen at hmu
        rw [← hnu] at hlen
        have HNU : Hid (nu = (bytesL bs).length) := hnu
        clear hnu
        have hc0 := cellr _ _ (HC.out 6 _ rfl)
        have hc1 := cellr _ _ (HC.out 7 _ rfl)
        have ru := r3.later hbr
        have hnz : ¬ ((nu : Int) = 0) := by omega
        have hnz2 : ¬ (nu = 0) := by omega
        have hnz3 : ((nu : Int) == 0) = false := by simp; omega
        clear r0 r1 r2 r3 r4 r5 cellr
        have HFL : Hid ([xs, bytesL bs, ys].flatten = xs ++ (bytesL bs ++ ys)) := by unfold Hid; simp
        have HAL : Hid ((xs ++ (bytesL bs ++ ys)).length ≤ 140737488355328) := by
          unfold Hid
          rw [List.length_append, List.length_append, ← HNX.out, ← HNY.out, ← HNU.out]
          omega
        have hp := rdp_three rx ru ry _ rfl
        have B2 := (Below.refl wr.heap.size wr).alloc (Nat.le_refl _) (.cells #[.slice ax nx cx, .slice au nu cu, .slice ay ny cy] 22)
        go_wp2_with fail
        refine (join_any hp (by rw [HFL.out]; exact HAL.out)).mono ?_
        rintro e w2 ⟨a2, m2, c2, rfl, own2, hb2⟩
        rw [HFL.out] at own2
        have ra := own2.rd (hx.1.app (HBL.out.app hy.1)) (by rw [own2.1]; exact Nat.le_trans HAL.out (by omega))
        have Bw : Below wr.heap.size wr w2 := B2.trans (hb2.mono B2.size)
        have hc0 : w2.cell? ⟨g, 6, none⟩ = some (.slice au nu cu) := by rw [Bw.cell (p := ⟨g, 6, none⟩) (World.block_lt_of_cell? wr _ hc0)]; exact hc0
        have hc1 : w2.cell? ⟨g, 7, none⟩ = some (.int .i64 4) := by rw [Bw.cell (p := ⟨g, 7, none⟩) (World.block_lt_of_cell? wr _ hc1)]; exact hc1
        have rb2 := rb.later Bw
        have ht2 := htr.later Bw
        have hsw := Bw.size
        have BD : Below w2.heap.size w2 w2.drew := (Below.refl _ w2).drew
        have raD := ra.later BD
        have rbD := rb2.later BD
        have htD := ht2.later BD
        have HEND : Hid (IntKind.i64.wrap ((nx : Int) + (nu : Int)) = ((xs.length + (bytesL bs).length : Nat) : Int)) := i64_id _ _ (by rw [← HNX.out, ← HNU.out]; omega) (by rw [← HNX.out, ← HNU.out]; omega)
        have hcD0 : w2.drew.cell? ⟨g, 6, none⟩ = some (.slice au nu cu) := (BD.cell (p := ⟨g, 6, none⟩) (World.block_lt_of_cell? w2 _ hc0)).trans hc0
        have hcD1 : w2.drew.cell? ⟨g, 7, none⟩ = some (.int .i64 4) := (BD.cell (p := ⟨g, 7, none⟩) (World.block_lt_of_cell? w2 _ hc1)).trans hc1
        have HC0 : Hid (w2.drew.cell? ⟨g, 6, none⟩ = some (.slice au nu cu)) := hcD0
        have HC1 : Hid (w2.drew.cell? ⟨g, 7, none⟩ = some (.int .i64 4)) := hcD1
        have BwD := Bw.trans (BD.mono hsw)
        clear BD hcD0 hcD1
        clear own2 hb2 B2 hp
        go_wp2_with fail
        go_region_held3 (fun w' => w'.cell? ⟨g, 6, none⟩ = some (.slice au nu cu) ∧ w'.cell? ⟨g, 7, none⟩ = some (.int .i64 4)) (first | exact ⟨hc0, hc1⟩ | exact ⟨hc0', hc1'⟩) (first | (go_at_call 36; refine (reads_at ((xs.length : Nat) : Int) _ _ ((xs.length + (bytesL bs).length : Nat) : Int) (by rw [← HNX.out]) rfl rfl HEND.out (reads_bytes raD rbD xs.length (by rw [List.length_append]; omega) (by rw [← HN.out]; exact hl) HAL.out HR.out _ _)).mono ?_; rintro e w3 ⟨rfl, hb3⟩; have hc0' : w3.cell? ⟨g, 6, none⟩ = some (.slice au nu cu) := (hb3.cell (p := ⟨g, 6, none⟩) (World.block_lt_of_cell? _ _ HC0.out)).trans HC0.out; have hc1' : w3.cell? ⟨g, 7, none⟩ = some (.int .i64 4) := (hb3.cell (p := ⟨g, 7, none⟩) (World.block_lt_of_cell? _ _ HC1.out)).trans HC1.out))
        have Bw3 := BwD.trans (hb3.mono hsw)
        have hb9 := hbr.trans (Bw3.mono hsr)
        clear hb3 Bw Bw3 BwD
        go_wp2
        go_roundw
        case rel => exact ⟨4, by omega, by go_num, hb9⟩
        case measure => simp [intOf]
      · have hlen : 1 ≤ (ordL bs).length ∧ (ordL bs).length ≤ 4194304 := (by have := HORD.out; refine ⟨?_, this⟩; unfold ordL; simp)
        have HBL : Hid (Bys (ordL bs)) := ordL_bys bs hb.1
        have HR : Hid (ordR (xs ++ (ordL bs ++ ys)) xs.length = (bs, xs.length + (ordL bs).length, 0)) := ord_trip bs xs ys
        obtain ⟨au, nu, cu, rfl⟩ := rd_slice r4
        obtain ⟨hnu, hleu, hmu, hl48u⟩ := rd_lens r4
        unfold maxLen at hmu
        rw [← hnu] at hlen
        have HNU : Hid (nu = (ordL bs).length) := hnu
        clear hnu
        have hc0 := cellr _ _ (HC.out 8 _ rfl)
        have hc1 := cellr _ _ (HC.out 9 _ rfl)
        have ru := r4.later hbr
        have hnz : ¬ ((nu : Int) = 0) := by omega
        have hnz2 : ¬ (nu = 0) := by omega
        have hnz3 : ((nu : Int) == 0) = false := by simp; omega
        clear r0 r1 r2 r3 r4 r5 cellr
        have HFL : Hid ([xs, ordL bs, ys].flatten = xs ++ (ordL bs ++ ys)) := by unfold Hid; simp
        have HAL : Hid ((xs ++ (ordL bs ++ ys)).length ≤ 140737488355328) := by
          unfold Hid
          rw [List.length_append, List.length_append, ← HNX.out, ← HNY.out, ← HNU.out]
          omega
        have hp := rdp_three rx ru ry _ rfl
        have B2 := (Below.refl wr.heap.size wr).alloc (Nat.le_refl _) (.cells #[.slice ax nx cx, .slice au nu cu, .slice ay ny cy] 22)
        go_wp2_with fail
        refine (join_any hp (by rw [HFL.out]; exact HAL.out)).mono ?_
        rintro e w2 ⟨a2, m2, c2, rfl, own2, hb2⟩
        rw [HFL.out] at own2
        have ra := own2.rd (hx.1.app (HBL.out.app hy.1)) (by rw [own2.1]; exact Nat.le_trans HAL.out (by omega))
        have Bw : Below wr.heap.size wr w2 := B2.trans (hb2.mono B2.size)
        have hc0 : w2.cell? ⟨g, 8, none⟩ = some (.slice au nu cu) := by rw [Bw.cell (p := ⟨g, 8, none⟩) (World.block_lt_of_cell? wr _ hc0)]; exact hc0
        have hc1 : w2.cell? ⟨g, 9, none⟩ = some (.int .i64 10) := by rw [Bw.cell (p := ⟨g, 9, none⟩) (World.block_lt_of_cell? wr _ hc1)]; exact hc1
        have rb2 := rb.later Bw
        have ht2 := htr.later Bw
        have hsw := Bw.size
        have BD : Below w2.heap.size w2 w2.drew := (Below.refl _ w2).drew
        have raD := ra.later BD
        have rbD := rb2.later BD
        have htD := ht2.later BD
        have HEND : Hid (IntKind.i64.wrap ((nx : Int) + (nu : Int)) = ((xs.length + (ordL bs).length : Nat) : Int)) := i64_id _ _ (by rw [← HNX.out, ← HNU.out]; omega) (by rw [← HNX.out, ← HNU.out]; omega)
        have hcD0 : w2.drew.cell? ⟨g, 8, none⟩ = some (.slice au nu cu) := (BD.cell (p := ⟨g, 8, none⟩) (World.block_lt_of_cell? w2 _ hc0)).trans hc0
        have hcD1 : w2.drew.cell? ⟨g, 9, none⟩ = some (.int .i64 10) := (BD.cell (p := ⟨g, 9, none⟩) (World.block_lt_of_cell? w2 _ hc1)).trans hc1
        have HC0 : Hid (w2.drew.cell? ⟨g, 8, none⟩ = some (.slice au nu cu)) := hcD0
        have HC1 : Hid (w2.drew.cell? ⟨g, 9, none⟩ = some (.int .i64 10)) := hcD1
        have BwD := Bw.trans (BD.mono hsw)
        clear BD hcD0 hcD1
        clear own2 hb2 B2 hp
        go_wp2_with fail
        go_region_held3 (fun w' => w'.cell? ⟨g, 8, none⟩ = some (.slice au nu cu) ∧ w'.cell? ⟨g, 9, none⟩ = some (.int .i64 10)) (first | exact ⟨hc0, hc1⟩ | exact ⟨hc0', hc1'⟩) (first | (go_at_call 36; refine (reads_at ((xs.length : Nat) : Int) _ _ ((xs.length + (ordL bs).length : Nat) : Int) (by rw [← HNX.out]) rfl rfl HEND.out (reads_ord raD rbD xs.length (by rw [List.length_append]; omega) (by rw [← HN.out]; exact hl) HAL.out HR.out _ _)).mono ?_; rintro e w3 ⟨rfl, hb3⟩; have hc0' : w3.cell? ⟨g, 8, none⟩ = some (.slice au nu cu) := (hb3.cell (p := ⟨g, 8, none⟩) (World.block_lt_of_cell? _ _ HC0.out)).trans HC0.out; have hc1' : w3.cell? ⟨g, 9, none⟩ = some (.int .i64 10) := (hb3.cell (p := ⟨g, 9, none⟩) (World.block_lt_of_cell? _ _ HC1.out)).trans HC1.out))
        have Bw3 := BwD.trans (hb3.mono hsw)
        have hb9 := hbr.trans (Bw3.mono hsr)
        clear hb3 Bw Bw3 BwD
        go_wp2
        go_roundw
        case rel => exact ⟨5, by omega, by go_num, hb9⟩
        case measure => simp [intOf]
      · have hlen : 1 ≤ (frameL bs).length ∧ (frameL bs).length ≤ 4194304 := (by have := HN.out; simp [frameL, be4, le4]; omega)
        have HBL : Hid (Bys (frameL bs)) := frameL_bys bs hb.1 (by rw [← HN.out]; exact hl)
        have HR : Hid (frameR (xs ++ (frameL bs ++ ys)) xs.length = (bs, xs.length + (frameL bs).length, 0)) := frame_trip bs (by rw [← HN.out]; exact hl) xs ys
        obtain ⟨au, nu, cu, rfl⟩ := rd_slice r5
        obtain ⟨hnu, hleu, hmu, hl48u⟩ := rd_lens r5
        unfold maxLen at hmu
        rw [← hnu] at hlen
        have HNU : Hid (nu = (frameL bs).length) := hnu
        clear hnu
        have hc0 := cellr _ _ (HC.out 10 _ rfl)
        have hc1 := cellr _ _ (HC.out 11 _ rfl)
        have ru := r5.later hbr
        have hnz : ¬ ((nu : Int) = 0) := by omega
        have hnz2 : ¬ (nu = 0) := by omega
        have hnz3 : ((nu : Int) == 0) = false := by simp; omega
        clear r0 r1 r2 r3 r4 r5 cellr
        have HFL : Hid ([xs, frameL bs, ys].flatten = xs ++ (frameL bs ++ ys)) := by unfold Hid; simp
        have HAL : Hid ((xs ++ (frameL bs ++ ys)).length ≤ 140737488355328) := by
          unfold Hid
          rw [List.length_append, List.length_append, ← HNX.out, ← HNY.out, ← HNU.out]
          omega
        have hp := rdp_three rx ru ry _ rfl
        have B2 := (Below.refl wr.heap.size wr).alloc (Nat.le_refl _) (.cells #[.slice ax nx cx, .slice au nu cu, .slice ay ny cy] 22)
        go_wp2_with fail
        refine (join_any hp (by rw [HFL.out]; exact HAL.out)).mono ?_
        rintro e w2 ⟨a2, m2, c2, rfl, own2, hb2⟩
        rw [HFL.out] at own2
        have ra := own2.rd (hx.1.app (HBL.out.app hy.1)) (by rw [own2.1]; exact Nat.le_trans HAL.out (by omega))
        have Bw : Below wr.heap.size wr w2 := B2.trans (hb2.mono B2.size)
        have hc0 : w2.cell? ⟨g, 10, none⟩ = some (.slice au nu cu) := by rw [Bw.cell (p := ⟨g, 10, none⟩) (World.block_lt_of_cell? wr _ hc0)]; exact hc0
        have hc1 : w2.cell? ⟨g, 11, none⟩ = some (.int .i64 13) := by rw [Bw.cell (p := ⟨g, 11, none⟩) (World.block_lt_of_cell? wr _ hc1)]; exact hc1
        have rb2 := rb.later Bw
        have ht2 := htr.later Bw
        have hsw := Bw.size
        have BD : Below w2.heap.size w2 w2.drew := (Below.refl _ w2).drew
        have raD := ra.later BD
        have rbD := rb2.later BD
        have htD := ht2.later BD
        have HEND : Hid (IntKind.i64.wrap ((nx : Int) + (nu : Int)) = ((xs.length + (frameL bs).length : Nat) : Int)) := i64_id _ _ (by rw [← HNX.out, ← HNU.out]; omega) (by rw [← HNX.out, ← HNU.out]; omega)
        have hcD0 : w2.drew.cell? ⟨g, 10, none⟩ = some (.slice au nu cu) := (BD.cell (p := ⟨g, 10, none⟩) (World.block_lt_of_cell? w2 _ hc0)).trans hc0
        have hcD1 : w2.drew.cell? ⟨g, 11, none⟩ = some (.int .i64 13) := (BD.cell (p := ⟨g, 11, none⟩) (World.block_lt_of_cell? w2 _ hc1)).trans hc1
        have HC0 : Hid (w2.drew.cell? ⟨g, 10, none⟩ = some (.slice au nu cu)) := hcD0
        have HC1 : Hid (w2.drew.cell? ⟨g, 11, none⟩ = some (.int .i64 13)) := hcD1
        have BwD := Bw.trans (BD.mono hsw)
        clear BD hcD0 hcD1
        clear own2 hb2 B2 hp
        go_wp2_with fail
        go_region_held3 (fun w' => w'.cell? ⟨g, 10, none⟩ = some (.slice au nu cu) ∧ w'.cell? ⟨g, 11, none⟩ = some (.int .i64 13)) (first | exact ⟨hc0, hc1⟩ | exact ⟨hc0', hc1'⟩) (first | (go_at_call 36; refine (reads_at ((xs.length : Nat) : Int) _ _ ((xs.length + (frameL bs).length : Nat) : Int) (by rw [← HNX.out]) rfl rfl HEND.out (reads_frame raD rbD htD xs.length (by rw [List.length_append]; omega) (by rw [← HN.out]; exact hl) HAL.out HR.out _ _)).mono ?_; rintro e w3 ⟨rfl, hb3⟩; have hc0' : w3.cell? ⟨g, 10, none⟩ = some (.slice au nu cu) := (hb3.cell (p := ⟨g, 10, none⟩) (World.block_lt_of_cell? _ _ HC0.out)).trans HC0.out; have hc1' : w3.cell? ⟨g, 11, none⟩ = some (.int .i64 13) := (hb3.cell (p := ⟨g, 11, none⟩) (World.block_lt_of_cell? _ _ HC1.out)).trans HC1.out))
        have Bw3 := BwD.trans (hb3.mono hsw)
        have hb9 := hbr.trans (Bw3.mono hsr)
        clear hb3 Bw Bw3 BwD
        go_wp2
        go_roundw
        case rel => exact ⟨6, by omega, by go_num, hb9⟩
        case measure => simp [intOf]
    · have ht66 : t = 6 := by omega
      subst ht66
      go_wp2_with fail
      refine (started_any (ht1.later hbr)).mono ?_
      rintro e w9 ⟨rfl, hb9⟩
      have hb9' := hb1.trans ((hbr.trans (hb9.mono hbr.size)).mono hs1)
      clear hb9
      go_wp2
      go_ret
      exact ⟨rfl, hb9'⟩

theorem back_walk2 (x : Int) {vb vx vy : Value} {bs xs ys : List Nat} {w : World} (wx : (Lit.int .u64 x).wf = true) (hb : Rd w vb bs) (hx : Rd w vx xs) (hy : Rd w vy ys) (ht : Tab w) (hl : bs.length ≤ 1048576) (hlx : xs.length ≤ 1048576) (hly : ys.length ≤ 1048576) :
    Calls Tryd.prog 10 #[.int .u64 x, vb, vx, vy] w fun e w' => e = .returned (.bool true) ∧ Below w.heap.size w w' := by
  have h2 := bounds_u64 wx
  obtain ⟨s, rfl⟩ := Int.eq_ofNat_of_zero_le h2.1
  exact back_walk (by omega) hb hx hy ht hl hlx hly

end Go.Proofs.YtbfeecnhmlcfaaaDoor
