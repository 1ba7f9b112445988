import Derived.Test.YtbfeecnhmlcfaaaDoorOrder
import Derived.Test.YtbfeecnhmlcfaaaDoorSums
import Derived.Deep.DeepCutAuto
import Derived.Deep.CutBlock
namespace Go.Proofs.YtbfeecnhmlcfaaaDoor
open Go.RowKit
set_option linter.unusedVariables false

theorem falling_at (z : Int) (n : Nat) (hz : z = (n : Int)) (hn : n < 9223372036854775808) (w : World) {L : List Nat} (hL : be8 (9223372036854775807 - n) = L) :
    Calls Tryd.prog 31 #[.int .i64 z] w fun e w' => ∃ a m c, e = .returned (.tuple #[.slice a m c, .int .i64 0]) ∧ Own w' w.heap.size (.slice a m c) m L ∧ Below w.heap.size w w' := by
  subst hz hL; exact falling_any n hn w
theorem order_at {va vb : Value} {xs ys : List Nat} {w : World} (ha : Rd w va xs) (hb : Rd w vb ys) {W : Int} (h : ordC xs ys = W) :
    Calls Tryd.prog 28 #[va, vb] w fun e w' => e = .returned (.int .i64 W) ∧ Below w.heap.size w w' := by
  subst h; exact order_any ha hb
theorem begins_not {va vb : Value} {xs ys : List Nat} {w : World} (ha : Rd w va xs) (hb : Rd w vb ys) (h1 : 0 < ys.length) (h : ¬ (xs.length ≤ ys.length ∧ xs = ys.take xs.length)) :
    Calls Tryd.prog 29 #[va, vb] w fun e w' => e = .returned (.bool false) ∧ w' = w := by
  have := begins_any ha hb h1
  rw [decide_eq_false h] at this
  exact this

set_option maxRecDepth 100000 in
set_option maxHeartbeats 4000000 in
theorem sorts_walk {va vb vx vy : Value} {xa xb xx xy : List Nat} {w : World} (m n : Int) (ha : Rd w va xa) (hb : Rd w vb xb) (hx : Rd w vx xx) (hy : Rd w vy xy) (ht : Tab w)
    (hm : -9223372036854775808 ≤ m ∧ m ≤ 9223372036854775807) (hn : -9223372036854775808 ≤ n ∧ n ≤ 9223372036854775807) (hla : xa.length ≤ 1048576) (hlb : xb.length ≤ 1048576) (hlx : xx.length ≤ 1048576) (hly : xy.length ≤ 1048576) :
    Calls Tryd.prog 7 #[va, vb, vx, vy, .int .i64 m, .int .i64 n] w fun e w' => e = .returned (.bool true) ∧ Below w.heap.size w w' := by
  obtain ⟨aa, na, ca, rfl⟩ := rd_slice ha
  obtain ⟨ab, nb, cb, rfl⟩ := rd_slice hb
  obtain ⟨ax, nx, cx, rfl⟩ := rd_slice hx
  obtain ⟨ay, ny, cy, rfl⟩ := rd_slice hy
  have hola := ordL_len xa
  have holb := ordL_len xb
  have hca : xa.count 0 ≤ xa.length := List.count_le_length
  have hcb : xb.count 0 ≤ xb.length := List.count_le_length
  have HLA : Hid ((ordL xa).length ≤ 2097154 ∧ 0 < (ordL xa).length) := by unfold Hid; omega
  have HLB : Hid ((ordL xb).length ≤ 2097154 ∧ 0 < (ordL xb).length) := by unfold Hid; omega
  have HBA : Hid (Bys (ordL xa)) := ordL_bys xa ha.1
  have HBB : Hid (Bys (ordL xb)) := ordL_bys xb hb.1
  clear hola holb hca hcb
  obtain ⟨W, hW⟩ : ∃ W, W = ordC xa xb := ⟨_, rfl⟩
  have HW : Hid (ordC xa xb = W) := hW.symm
  have hWr := ordC_range xa xb
  rw [← hW] at hWr
  clear hW
  go_enter Tryd.func7, Tryd.ntmps7
  go_wp2_with fail
  refine (ordered_any ha (by have := HLA.out; omega)).mono ?_
  rintro e w1 ⟨a1, m1, c1, rfl, own1, hb1⟩
  have r1 := own1.rd HBA.out (by rw [own1.1]; have := HLA.out; omega)
  have hs1 := hb1.size
  clear own1
  go_wp2_with fail
  refine (ordered_any (hb.later hb1) (by have := HLB.out; omega)).mono ?_
  rintro e w2 ⟨a2, m2, c2, rfl, own2, hb2⟩
  have r2 := own2.rd HBB.out (by rw [own2.1]; have := HLB.out; omega)
  have hb2' := hb1.trans (hb2.mono hs1)
  have r1' := r1.later hb2
  have hs2 := hb2'.size
  clear own2 hb2 r1 hb1 hs1
  go_wp2_with fail
  refine (order_at (ha.later hb2') (hb.later hb2') HW.out).mono ?_
  rintro e w3 ⟨rfl, hb3⟩
  have hb3' := hb2'.trans (hb3.mono hs2)
  have r1 := r1'.later hb3
  have r2' := r2.later hb3
  have hs3 := hb3'.size
  clear r1' r2 hb3 hb2' hs2
  go_upto_region 4 with fail
  go_cut [70] (fun v wx => v = .bool false ∧ Below w.heap.size w wx)
  case first =>
    by_cases hW0 : W = 0
    · have h1 : (W != W) = false := by simp
      have h2 : (W != 0) = false := by simp [hW0]
      have HWW : Hid (ordC (ordL xa) (ordL xb) = W) := by unfold Hid; rw [ordC_ordL0]; exact HW.out
      clear hW0 hWr
      go_wp2_with fail
      refine (order_at r1 r2' HWW.out).mono ?_
      rintro e w4 ⟨rfl, hb4⟩
      have hb4' := hb3'.trans (hb4.mono hs3)
      clear hb4
      go_wp2
      go_meet
      exact ⟨rfl, hb4'⟩
    · have h1 : (W != W) = false := by simp
      have h2 : (W != 0) = true := by simpa using hW0
      have HWW : Hid (ordC (ordL xa) (ordL xb) = W) := by unfold Hid; rw [ordC_ordL0]; exact HW.out
      have HNE : Hid (ordC xa xb ≠ 0) := by unfold Hid; rw [HW.out]; exact hW0
      have HF1 : Hid (¬ ((ordL xa).length ≤ (ordL xb).length ∧ ordL xa = (ordL xb).take (ordL xa).length)) := ordL_free xa xb HNE.out
      have HF2 : Hid (¬ ((ordL xb).length ≤ (ordL xa).length ∧ ordL xb = (ordL xa).take (ordL xb).length)) := ordL_free xb xa (by rw [ordC_swap]; have := HNE.out; omega)
      have HWJ : Hid (ordC ([ordL xa, xx].flatten) ([ordL xb, xy].flatten) = W) := by
        unfold Hid
        have := ordC_ordL xa xb xx xy HNE.out
        rw [HW.out] at this
        simpa using this
      clear hW0 hWr
      go_wp2_with fail
      refine (order_at r1 r2' HWW.out).mono ?_
      rintro e w4 ⟨rfl, hb4⟩
      have hb4' := hb3'.trans (hb4.mono hs3)
      have r1 := r1.later hb4
      have r2 := r2'.later hb4
      have hx4 := hx.later hb4'
      have hy4 := hy.later hb4'
      have hs4 := hb4'.size
      clear hb4
      go_wp2_with fail
      refine (begins_not r1 r2 HLB.out.2 HF1.out).mono ?_
      rintro e w5 ⟨rfl, rfl⟩
      go_wp2_with fail
      refine (begins_not r2 r1 HLA.out.2 HF2.out).mono ?_
      rintro e w6 ⟨rfl, rfl⟩
      go_wp2_with fail
      have A1 := (Below.refl w6.heap.size w6).alloc (Nat.le_refl _) (.cells #[.slice a1 m1 c1, .slice ax nx cx] 22)
      have hp := rdp_two r1 hx4 _ rfl
      have hbyj := flat_bys hp
      have hlj : [ordL xa, xx].flatten.length ≤ 4194304 := by simp; have := HLA.out; omega
      refine (join_any hp (by omega)).mono ?_
      rintro e w7 ⟨a7, m7, c7, rfl, own7, hb7⟩
      have r7 := own7.rd hbyj (by rw [own7.1]; omega)
      have hbA := hb4'.trans (A1.mono hs4)
      have hb7' := hbA.trans (hb7.mono hbA.size)
      have r2b := (r2.later A1).later hb7
      have hy7 := (hy4.later A1).later hb7
      have hs7 := hb7'.size
      clear own7 hb7 A1 hp hbyj hlj hbA hb4' r1 r2 hx4 hy4 hs4
      go_wp2_with fail
      have A2 := (Below.refl w7.heap.size w7).alloc (Nat.le_refl _) (.cells #[.slice a2 m2 c2, .slice ay ny cy] 22)
      have hp := rdp_two r2b hy7 _ rfl
      have hbyj := flat_bys hp
      have hlj : [ordL xb, xy].flatten.length ≤ 4194304 := by simp; have := HLB.out; omega
      refine (join_any hp (by omega)).mono ?_
      rintro e w8 ⟨a8, m8, c8, rfl, own8, hb8⟩
      have r8 := own8.rd hbyj (by rw [own8.1]; omega)
      have hbA := hb7'.trans (A2.mono hs7)
      have hb8' := hbA.trans (hb8.mono hbA.size)
      have r7b := (r7.later A2).later hb8
      have hs8 := hb8'.size
      clear own8 hb8 A2 hp hbyj hlj hbA hb7' r7 r2b hy7 hs7
      go_wp2_with fail
      refine (order_at r7b r8 HWJ.out).mono ?_
      rintro e w9 ⟨rfl, hb9⟩
      have hb9' := hb8'.trans (hb9.mono hs8)
      clear hb9
      go_wp2
      go_meet
      exact ⟨rfl, hb9'⟩
  case rest =>
  obtain ⟨rfl, hbc⟩ := hcut
  have htc := ht.later hbc
  have hsc := hbc.size
  clear r1 r2' hb3' hs3 ha hb hx hy hWr HW HLA HLB HBA HBB
  have hm1 := hm.1
  have hm2 := hm.2
  have hn1 := hn.1
  have hn2 := hn.2
  clear hm hn
  by_cases hm0 : m < 0
  · have hd1 : decide (m < 0) = true := by simpa using hm0
    have HMIN : Hid (min m n < 0) := by unfold Hid; omega
    go_wp2_with fail
    refine (rising_neg _ HMIN.out _).mono ?_
    rintro e w5 ⟨rfl, rfl⟩
    go_wp2_with fail
    refine (falling_neg _ HMIN.out _).mono ?_
    rintro e w6 ⟨rfl, rfl⟩
    go_wp2_with fail
    refine (started_any htc).mono ?_
    rintro e w7 ⟨rfl, hb7⟩
    have hb7' := hbc.trans (hb7.mono hsc)
    clear hb7
    go_wp2_with fail
    refine (num_any _ _).mono ?_
    rintro e w8 ⟨rfl, rfl⟩
    go_wp2_with fail
    refine (num_any _ _).mono ?_
    rintro e w9 ⟨rfl, rfl⟩
    go_wp2
    go_ret
    exact ⟨rfl, hb7'⟩
  · have hd1 : decide (m < 0) = false := by simpa using hm0
    have hm0' : 0 ≤ m := by omega
    by_cases hn0 : n < 0
    · have HMIN : Hid (min m n < 0) := by unfold Hid; omega
      go_wp2_with fail
      refine (rising_neg _ HMIN.out _).mono ?_
      rintro e w5 ⟨rfl, rfl⟩
      go_wp2_with fail
      refine (falling_neg _ HMIN.out _).mono ?_
      rintro e w6 ⟨rfl, rfl⟩
      go_wp2_with fail
      refine (started_any htc).mono ?_
      rintro e w7 ⟨rfl, hb7⟩
      have hb7' := hbc.trans (hb7.mono hsc)
      clear hb7
      go_wp2_with fail
      refine (num_any _ _).mono ?_
      rintro e w8 ⟨rfl, rfl⟩
      go_wp2_with fail
      refine (num_any _ _).mono ?_
      rintro e w9 ⟨rfl, rfl⟩
      go_wp2
      go_ret
      exact ⟨rfl, hb7'⟩
    · have hn0' : 0 ≤ n := by omega
      obtain ⟨M, rfl⟩ := Int.eq_ofNat_of_zero_le hm0'
      obtain ⟨N, rfl⟩ := Int.eq_ofNat_of_zero_le hn0'
      have HML : Hid (M < 9223372036854775808) := by unfold Hid; omega
      have HNL : Hid (N < 9223372036854775808) := by unfold Hid; omega
      have HO1' : Hid (ordC (be8 M) (be8 N) = cmpN M N) := ordC_be8 M N HML.out HNL.out
      have HO2' : Hid (ordC (be8 (9223372036854775807 - N)) (be8 (9223372036854775807 - M)) = cmpN M N) := by
        unfold Hid
        rw [ordC_be8 _ _ (by omega) (by omega)]
        have h1 := HML.out
        have h2 := HNL.out
        unfold cmpN
        by_cases h : M < N
        · rw [if_pos h, if_pos (by omega)]
        · by_cases h' : N < M
          · rw [if_neg h, if_pos h', if_neg (by omega), if_pos (by omega)]
          · rw [if_neg h, if_neg h', if_neg (by omega), if_neg (by omega)]
      obtain ⟨LM, hLM⟩ : ∃ L, be8 (9223372036854775807 - M) = L := ⟨_, rfl⟩
      obtain ⟨LN, hLN⟩ : ∃ L, be8 (9223372036854775807 - N) = L := ⟨_, rfl⟩
      obtain ⟨KM, hKM⟩ : ∃ L, L = be8 M := ⟨_, rfl⟩
      obtain ⟨KN, hKN⟩ : ∃ L, L = be8 N := ⟨_, rfl⟩
      have HLM : Hid (be8 (9223372036854775807 - M) = LM) := hLM
      have HLN : Hid (be8 (9223372036854775807 - N) = LN) := hLN
      have HB1 : Hid (Bys LM ∧ LM.length = 8) := by unfold Hid; rw [← hLM]; exact ⟨be8_bys _, rfl⟩
      have HB2 : Hid (Bys LN ∧ LN.length = 8) := by unfold Hid; rw [← hLN]; exact ⟨be8_bys _, rfl⟩
      have HO2'' : Hid (ordC LN LM = cmpN M N) := by unfold Hid; rw [← hLN, ← hLM]; exact HO2'.out
      clear hLM hLN hKM hKN HO2' KM KN
      by_cases hlt : M < N
      · have hlt' : (M : Int) < (N : Int) := by omega
        have HO1 : Hid (ordC (be8 M) (be8 N) = -1) := by unfold Hid; rw [HO1'.out]; unfold cmpN; rw [if_pos hlt]
        have HO2 : Hid (ordC LN LM = -1) := by unfold Hid; rw [HO2''.out]; unfold cmpN; rw [if_pos hlt]
        clear HO1' HO2''
        go_wp2_with fail
        refine (rising_at _ M rfl HML.out _).mono ?_
        rintro e w5 ⟨a5, m5, c5, rfl, own5, hb5⟩
        obtain rfl : m5 = 8 := own5.1
        have r5 := own5.rd (be8_bys M) (by omega)
        have hb5' := hbc.trans (hb5.mono hsc)
        have hs5 := hb5'.size
        clear own5 hb5
        go_wp2_with fail
        refine (rising_at _ N rfl HNL.out _).mono ?_
        rintro e w6 ⟨a6, m6, c6, rfl, own6, hb6⟩
        obtain rfl : m6 = 8 := own6.1
        have r6 := own6.rd (be8_bys N) (by omega)
        have r5' := r5.later hb6
        have hb6' := hb5'.trans (hb6.mono hs5)
        have hs6 := hb6'.size
        clear own6 hb6 r5 hb5' hs5
        go_wp2_with fail
        refine (falling_at _ M rfl HML.out _ HLM.out).mono ?_
        rintro e w7 ⟨a7, m7, c7, rfl, own7, hb7⟩
        obtain rfl : m7 = 8 := own7.1.trans HB1.out.2
        have r7 := own7.rd HB1.out.1 (by omega)
        have r5 := r5'.later hb7
        have r6' := r6.later hb7
        have hb7' := hb6'.trans (hb7.mono hs6)
        have hs7 := hb7'.size
        clear own7 hb7 r5' r6 hb6' hs6
        go_wp2_with fail
        refine (falling_at _ N rfl HNL.out _ HLN.out).mono ?_
        rintro e w8 ⟨a8, m8, c8, rfl, own8, hb8⟩
        obtain rfl : m8 = 8 := own8.1.trans HB2.out.2
        have r8 := own8.rd HB2.out.1 (by omega)
        have r5' := r5.later hb8
        have r6 := r6'.later hb8
        have r7' := r7.later hb8
        have hb8' := hb7'.trans (hb8.mono hs7)
        have hs8 := hb8'.size
        have ht8 := ht.later hb8'
        clear own8 hb8 r5 r6' r7 hb7' hs7
        go_wp2_with fail
        refine (started_any ht8).mono ?_
        rintro e w9 ⟨rfl, hb9⟩
        have r5 := r5'.later hb9
        have r6' := r6.later hb9
        have r7 := r7'.later hb9
        have r8' := r8.later hb9
        have hb9' := hb8'.trans (hb9.mono hs8)
        have hs9 := hb9'.size
        clear hb9 r5' r6 r7' r8 hb8' hs8 ht8
        go_wp2_with fail
        refine (order_at r5 r6' HO1.out).mono ?_
        rintro e w10 ⟨rfl, hb10⟩
        have r7' := r7.later hb10
        have r8 := r8'.later hb10
        have hb10' := hb9'.trans (hb10.mono hs9)
        have hs10 := hb10'.size
        clear hb10 r7 r8' hb9' hs9 r5 r6'
        go_wp2_with fail
        refine (order_at r8 r7' HO2.out).mono ?_
        rintro e w11 ⟨rfl, hb11⟩
        have hb11' := hb10'.trans (hb11.mono hs10)
        clear hb11
        go_wp2
        go_ret
        exact ⟨rfl, hb11'⟩
      · by_cases hgt : N < M
        · have hgt' : (N : Int) < (M : Int) := by omega
          have HO1 : Hid (ordC (be8 M) (be8 N) = 1) := by unfold Hid; rw [HO1'.out]; unfold cmpN; rw [if_neg hlt, if_pos hgt]
          have HO2 : Hid (ordC LN LM = 1) := by unfold Hid; rw [HO2''.out]; unfold cmpN; rw [if_neg hlt, if_pos hgt]
          clear HO1' HO2''
          go_wp2_with fail
          refine (rising_at _ M rfl HML.out _).mono ?_
          rintro e w5 ⟨a5, m5, c5, rfl, own5, hb5⟩
          obtain rfl : m5 = 8 := own5.1
          have r5 := own5.rd (be8_bys M) (by omega)
          have hb5' := hbc.trans (hb5.mono hsc)
          have hs5 := hb5'.size
          clear own5 hb5
          go_wp2_with fail
          refine (rising_at _ N rfl HNL.out _).mono ?_
          rintro e w6 ⟨a6, m6, c6, rfl, own6, hb6⟩
          obtain rfl : m6 = 8 := own6.1
          have r6 := own6.rd (be8_bys N) (by omega)
          have r5' := r5.later hb6
          have hb6' := hb5'.trans (hb6.mono hs5)
          have hs6 := hb6'.size
          clear own6 hb6 r5 hb5' hs5
          go_wp2_with fail
          refine (falling_at _ M rfl HML.out _ HLM.out).mono ?_
          rintro e w7 ⟨a7, m7, c7, rfl, own7, hb7⟩
          obtain rfl : m7 = 8 := own7.1.trans HB1.out.2
          have r7 := own7.rd HB1.out.1 (by omega)
          have r5 := r5'.later hb7
          have r6' := r6.later hb7
          have hb7' := hb6'.trans (hb7.mono hs6)
          have hs7 := hb7'.size
          clear own7 hb7 r5' r6 hb6' hs6
          go_wp2_with fail
          refine (falling_at _ N rfl HNL.out _ HLN.out).mono ?_
          rintro e w8 ⟨a8, m8, c8, rfl, own8, hb8⟩
          obtain rfl : m8 = 8 := own8.1.trans HB2.out.2
          have r8 := own8.rd HB2.out.1 (by omega)
          have r5' := r5.later hb8
          have r6 := r6'.later hb8
          have r7' := r7.later hb8
          have hb8' := hb7'.trans (hb8.mono hs7)
          have hs8 := hb8'.size
          have ht8 := ht.later hb8'
          clear own8 hb8 r5 r6' r7 hb7' hs7
          go_wp2_with fail
          refine (started_any ht8).mono ?_
          rintro e w9 ⟨rfl, hb9⟩
          have r5 := r5'.later hb9
          have r6' := r6.later hb9
          have r7 := r7'.later hb9
          have r8' := r8.later hb9
          have hb9' := hb8'.trans (hb9.mono hs8)
          have hs9 := hb9'.size
          clear hb9 r5' r6 r7' r8 hb8' hs8 ht8
          go_wp2_with fail
          refine (order_at r5 r6' HO1.out).mono ?_
          rintro e w10 ⟨rfl, hb10⟩
          have r7' := r7.later hb10
          have r8 := r8'.later hb10
          have hb10' := hb9'.trans (hb10.mono hs9)
          have hs10 := hb10'.size
          clear hb10 r7 r8' hb9' hs9 r5 r6'
          go_wp2_with fail
          refine (order_at r8 r7' HO2.out).mono ?_
          rintro e w11 ⟨rfl, hb11⟩
          have hb11' := hb10'.trans (hb11.mono hs10)
          clear hb11
          go_wp2
          go_ret
          exact ⟨rfl, hb11'⟩
        · have hle1 : (M : Int) ≤ (N : Int) := by omega
          have hle2 : (N : Int) ≤ (M : Int) := by omega
          have HO1 : Hid (ordC (be8 M) (be8 N) = 0) := by unfold Hid; rw [HO1'.out]; unfold cmpN; rw [if_neg hlt, if_neg hgt]
          have HO2 : Hid (ordC LN LM = 0) := by unfold Hid; rw [HO2''.out]; unfold cmpN; rw [if_neg hlt, if_neg hgt]
          clear HO1' HO2''
          go_wp2_with fail
          refine (rising_at _ M rfl HML.out _).mono ?_
          rintro e w5 ⟨a5, m5, c5, rfl, own5, hb5⟩
          obtain rfl : m5 = 8 := own5.1
          have r5 := own5.rd (be8_bys M) (by omega)
          have hb5' := hbc.trans (hb5.mono hsc)
          have hs5 := hb5'.size
          clear own5 hb5
          go_wp2_with fail
          refine (rising_at _ N rfl HNL.out _).mono ?_
          rintro e w6 ⟨a6, m6, c6, rfl, own6, hb6⟩
          obtain rfl : m6 = 8 := own6.1
          have r6 := own6.rd (be8_bys N) (by omega)
          have r5' := r5.later hb6
          have hb6' := hb5'.trans (hb6.mono hs5)
          have hs6 := hb6'.size
          clear own6 hb6 r5 hb5' hs5
          go_wp2_with fail
          refine (falling_at _ M rfl HML.out _ HLM.out).mono ?_
          rintro e w7 ⟨a7, m7, c7, rfl, own7, hb7⟩
          obtain rfl : m7 = 8 := own7.1.trans HB1.out.2
          have r7 := own7.rd HB1.out.1 (by omega)
          have r5 := r5'.later hb7
          have r6' := r6.later hb7
          have hb7' := hb6'.trans (hb7.mono hs6)
          have hs7 := hb7'.size
          clear own7 hb7 r5' r6 hb6' hs6
          go_wp2_with fail
          refine (falling_at _ N rfl HNL.out _ HLN.out).mono ?_
          rintro e w8 ⟨a8, m8, c8, rfl, own8, hb8⟩
          obtain rfl : m8 = 8 := own8.1.trans HB2.out.2
          have r8 := own8.rd HB2.out.1 (by omega)
          have r5' := r5.later hb8
          have r6 := r6'.later hb8
          have r7' := r7.later hb8
          have hb8' := hb7'.trans (hb8.mono hs7)
          have hs8 := hb8'.size
          have ht8 := ht.later hb8'
          clear own8 hb8 r5 r6' r7 hb7' hs7
          go_wp2_with fail
          refine (started_any ht8).mono ?_
          rintro e w9 ⟨rfl, hb9⟩
          have r5 := r5'.later hb9
          have r6' := r6.later hb9
          have r7 := r7'.later hb9
          have r8' := r8.later hb9
          have hb9' := hb8'.trans (hb9.mono hs8)
          have hs9 := hb9'.size
          clear hb9 r5' r6 r7' r8 hb8' hs8 ht8
          go_wp2_with fail
          refine (order_at r5 r6' HO1.out).mono ?_
          rintro e w10 ⟨rfl, hb10⟩
          have r7' := r7.later hb10
          have r8 := r8'.later hb10
          have hb10' := hb9'.trans (hb10.mono hs9)
          have hs10 := hb10'.size
          clear hb10 r7 r8' hb9' hs9 r5 r6'
          go_wp2_with fail
          refine (order_at r8 r7' HO2.out).mono ?_
          rintro e w11 ⟨rfl, hb11⟩
          have hb11' := hb10'.trans (hb11.mono hs10)
          clear hb11
          go_wp2
          go_ret
          exact ⟨rfl, hb11'⟩

end Go.Proofs.YtbfeecnhmlcfaaaDoor
