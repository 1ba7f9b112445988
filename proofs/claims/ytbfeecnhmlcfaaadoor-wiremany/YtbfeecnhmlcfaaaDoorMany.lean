import Derived.Test.YtbfeecnhmlcfaaaDoorTrip
import Derived.OpenShut
import Derived.Deep.DeepCutAuto
import Derived.Deep.CutBlock
namespace Go.Proofs.YtbfeecnhmlcfaaaDoor
open Go.RowKit
set_option linter.unusedVariables false

def itemL (step : Nat) (b : List Nat) (i : Nat) : List Nat := uintL (step * i % 18446744073709551616) ++ bytesL (b.take (i % (b.length + 1)))
def allL (step : Nat) (b : List Nat) : Nat → List Nat
  | 0 => []
  | n + 1 => allL step b n ++ itemL step b n
theorem itemL_len (step : Nat) (b : List Nat) (hb : b.length ≤ 200) (i : Nat) : (itemL step b i).length ≤ 220 := by
  unfold itemL bytesL
  have h1 := uintL_len (step * i % 18446744073709551616)
  have h2 := uintL_len (b.take (i % (b.length + 1))).length
  simp only [List.length_append, List.length_take] at *
  omega
theorem allL_len (step : Nat) (b : List Nat) (hb : b.length ≤ 200) (n : Nat) : (allL step b n).length ≤ 220 * n := by
  induction n with
  | zero => simp [allL]
  | succ n ih => have := itemL_len step b hb n; simp only [allL, List.length_append]; omega
theorem itemL_bys (step : Nat) (b : List Nat) (hb : b.length ≤ 200) (hby : Bys b) (i : Nat) : Bys (itemL step b i) := by
  refine (uintL_bys _ (Nat.mod_lt _ (by omega))).app ((uintL_bys _ (by simp; omega)).app ?_)
  intro x hx
  exact hby x (List.mem_of_mem_take hx)
theorem allL_bys (step : Nat) (b : List Nat) (hb : b.length ≤ 200) (hby : Bys b) (n : Nat) : Bys (allL step b n) := by
  induction n with
  | zero => intro x hx; simp [allL] at hx
  | succ n ih => exact ih.app (itemL_bys step b hb hby n)
theorem allL_split (step : Nat) (b : List Nat) (n k : Nat) (h : k < n) : ∃ rest, allL step b n = allL step b k ++ (uintL (step * k % 18446744073709551616) ++ (bytesL (b.take (k % (b.length + 1))) ++ rest)) := by
  induction n with
  | zero => omega
  | succ n ih =>
    by_cases hkn : k = n
    · subst hkn
      exact ⟨[], by simp [allL, itemL]⟩
    · obtain ⟨rest, hr⟩ := ih (by omega)
      exact ⟨rest ++ itemL step b n, by simp only [allL]; rw [hr]; simp⟩

theorem readBytes_at {v : Value} {bs : List Nat} {w : World} (hr : Rd w v bs) (z : Int) (k : Nat) (hz : z = (k : Int)) (y : Int) (most : Nat) (hy : y = (most : Int)) (hk : k ≤ bs.length) (hmost : most < 9223372036854775808) (h47 : bs.length ≤ 140737488355328) {L : List Nat} {P E : Nat} (h : bytesR bs k most = (L, P, E)) :
    Calls Tryd.prog 26 #[v, .int .i64 z, .int .i64 y] w fun e w' => ∃ a m c, e = .returned (.tuple #[.slice a m c, .int .i64 (P : Int), .int .i64 (E : Int)]) ∧ Own w' w.heap.size (.slice a m c) m L ∧ Below w.heap.size w w' := by
  subst hz hy
  have := readBytes_in hr k most hk hmost h47
  rw [h] at this
  exact this

set_option maxRecDepth 100000 in
set_option maxHeartbeats 2000000 in
theorem many_walk (z : Int) (step : Nat) {vb : Value} {bs : List Nat} {w : World} (hz1 : -9223372036854775808 ≤ z) (hz2 : z ≤ 9223372036854775807) (hs : step < 18446744073709551616) (hr : Rd w vb bs) (ht : Tab w) :
    Calls Tryd.prog 6 #[.int .i64 z, .int .u64 (step : Int), vb] w fun e w' => e = .returned (.bool true) ∧ Below w.heap.size w w' := by
  obtain ⟨a, n, cap, rfl⟩ := rd_slice hr
  obtain ⟨hn, hle, hm, hl48⟩ := rd_lens hr
  have HN : Hid (n = bs.length) := hn
  clear hn
  unfold maxLen at hm
  go_enter Tryd.func6, Tryd.ntmps6
  go_upto_region 1 with fail
  go_cut [0] (fun x wx => ∃ N : Nat, 1 ≤ N ∧ N ≤ 3000 ∧ x = .int .i64 (N : Int) ∧ wx = w)
  case first =>
    go_wp2
    all_goals go_meet
    all_goals first
      | (refine ⟨1, ?_, ?_, rfl, rfl⟩ <;> omega)
      | (refine ⟨3000, ?_, ?_, rfl, rfl⟩ <;> omega)
      | (refine ⟨z.toNat, ?_, ?_, congrArg (Value.int .i64) ?_, rfl⟩ <;> omega)
  case rest =>
  obtain ⟨N, hN1, hN2, rfl, rfl⟩ := hcut
  go_upto_if 22 with fail
  go_cut [2] (fun v wx => ∃ a' n' cap', v = .slice a' n' cap' ∧ Rd wx (.slice a' n' cap') (bs.take 200) ∧ wx = wc)
  case first =>
    by_cases h200 : n ≤ 200
    · have h200' : (n : Int) ≤ 200 := by omega
      have e : bs.take 200 = bs := List.take_of_length_le (by rw [← HN.out]; exact h200)
      go_wp2
      go_meet
      exact ⟨a, n, cap, rfl, by rw [e]; exact hr, rfl⟩
    · have h200' : (200 : Int) < (n : Int) := by omega
      rcases rd_some hr with ⟨h0, _⟩ | ⟨b, off, rfl⟩
      · omega
      have hu := hr.upto 200 (by omega)
      have hc2 : (200 : Int) ≤ (cap : Int) := by omega
      go_wp2
      go_meet
      exact ⟨_, _, _, rfl, hu, rfl⟩
  case rest =>
  obtain ⟨a', n', cap', rfl, hr', rfl⟩ := hcut
  obtain ⟨hn', hle', hm', _⟩ := rd_lens hr'
  obtain ⟨B, hB⟩ : ∃ B, B = bs.take 200 := ⟨_, rfl⟩
  rw [← hB] at hr' hn'
  have hB200 : n' ≤ 200 := by rw [hn', hB, List.length_take]; omega
  have HB : Hid (n' = B.length) := hn'
  unfold maxLen at hm'
  clear hB hn' hr hle hl48 hm
  have hbl : B.length ≤ 200 := by rw [← HB.out]; exact hB200
  have HBL : Hid (B.length ≤ 200) := hbl
  clear hbl
  have part : ∀ k : Nat, k ≤ n' → ∀ {wz : World}, Below wc.heap.size wc wz → Rd wz (.slice a' k cap') (B.take k) := by
    intro k hk wz hbz
    rcases rd_some hr' with ⟨h0, h1, h2⟩ | ⟨b, off, rfl⟩
    · obtain rfl : k = 0 := by omega
      rw [h0]
      simpa using Rd.zero wz a'
    · exact (hr'.upto k hk).later hbz
  have PART : Hid (∀ k : Nat, k ≤ n' → ∀ {wz : World}, Below wc.heap.size wc wz → Rd wz (.slice a' k cap') (B.take k)) := part
  clear part
  go_wp2
  go_loopw [7, 8] (fun s i wr => ∃ k a m c, k ≤ N ∧ i = .int .i64 ((k : Nat) : Int) ∧ s = .slice a m c ∧ Own wr wc.heap.size (.slice a m c) m (allL step B k) ∧ Below wc.heap.size wc wr) (fun _ i _ => N - (intOf i).toNat)
  case atStart => exact ⟨0, _, _, _, Nat.zero_le _, rfl, rfl, ⟨rfl, World.ownsRow_nil _ _ _ _⟩, Below.refl _ _⟩
  case round =>
    obtain ⟨k, a1, m1, c1, hk, rfl, rfl, own1, hb1⟩ := hrel
    have hs1 := hb1.size
    have hlen1 := allL_len step B HBL.out k
    rw [← own1.1] at hlen1
    by_cases hlt : k < N
    · have hlt2 : (k : Int) < (N : Int) := by omega
      have hkm : (k : Int) % 18446744073709551616 = (k : Int) := by omega
      have hkr : (k : Int) % ((n' : Int) + 1) = ((k % (n' + 1) : Nat) : Int) := by simp
      have hkl : k % (n' + 1) ≤ n' := by have := Nat.mod_lt k (show n' + 1 > 0 by omega); omega
      have hwr : IntKind.u64.wrap ((step : Int) * (k : Int)) = ((step * k % 18446744073709551616 : Nat) : Int) := by rw [IntKind.wrap_u64]; simp
      obtain ⟨V, hV⟩ : ∃ V, V = step * k % 18446744073709551616 := ⟨_, rfl⟩
      rw [← hV] at hwr
      have hVl : V < 18446744073709551616 := by rw [hV]; exact Nat.mod_lt _ (by omega)
      have HV : Hid (V = step * k % 18446744073709551616) := hV
      clear hV
      obtain ⟨j, hj⟩ : ∃ j, j = k % (n' + 1) := ⟨_, rfl⟩
      rw [← hj] at hkr hkl
      have HJ : Hid (j = k % (n' + 1)) := hj
      clear hj
      go_wp2_with fail
      refine (uint_at _ V rfl hVl _ rfl).mono ?_
      rintro e w2 ⟨a2, m2, c2, rfl, own2, hb2⟩
      have hl2 := uintL_len V
      rw [← own2.1] at hl2
      have r2 := own2.rd (uintL_bys V hVl) (by omega)
      have own1' : Own w2 wc.heap.size (.slice a1 m1 c1) m1 (allL step B k) := own1.later hb2
      have hb2' := hb1.trans (hb2.mono hs1)
      have hs2 := hb2'.size
      have hl2' := hl2.2
      clear own2 hb2 hl2 own1 hb1 hs1
      go_wp2_with (at_builtin; refine wpList_append_at rfl (.tmp 30) _ rfl wc.heap.size _ _ _ _ rfl own1' _ _ _ _ rfl r2 (by omega) hs2 ?_; intro a3 m3 c3 w3 own3 hb3)
      have hb3' := hb2'.trans hb3
      have hm3 : m3 ≤ 220 * k + 10 := by rw [own3.1, List.length_append, ← own1'.1, ← (rd_lens r2).1]; omega
      have hs3 := hb3'.size
      clear own1' hb3 hb2' r2 hs2
      refine (bytes_any (PART.out j hkl hb3') (by have := HBL.out; rw [List.length_take]; omega)).mono ?_
      rintro e w4 ⟨a4, m4, c4, rfl, own4, hb4⟩
      have own3' := own3.later hb4
      have hb4' := hb3'.trans (hb4.mono hs3)
      have hs4 := hb4'.size
      have hm4 : m4 ≤ 210 := by
        have h1 := own4.1
        have h2 := uintL_len (B.take j).length
        have h3 : (B.take j).length ≤ 200 := by rw [List.length_take]; have := HBL.out; omega
        unfold bytesL at h1
        rw [List.length_append] at h1
        omega
      have hbyB : Bys B := hr'.1
      have HBY : Hid (Bys B) := hbyB
      clear hbyB
      have r4 := own4.rd ((uintL_bys _ (by have := HBL.out; rw [List.length_take]; omega)).app (fun x hx => HBY.out x (List.mem_of_mem_take hx))) (by omega)
      clear own4 hb4 own3 hb3' hs3
      go_wp2_with (at_builtin; refine wpList_append_at rfl (.tmp 37) _ rfl wc.heap.size _ _ _ _ rfl own3' _ _ _ _ rfl r4 (by omega) hs4 ?_; intro a5 m5 c5 w5 own5 hb5)
      go_roundw
      case rel =>
        refine ⟨k + 1, a5, m5, c5, by omega, by go_num, rfl, ?_, hb4'.trans hb5⟩
        have e : allL step B (k + 1) = (allL step B k ++ uintL V) ++ bytesL (B.take j) := by
          simp only [allL, itemL]
          rw [← HV.out, ← HB.out, ← HJ.out, List.append_assoc]
        rw [e]
        exact own5
      case measure => simp [intOf]; omega
    · have hge : (N : Int) ≤ (k : Int) := by omega
      obtain rfl : k = N := by omega
      have rall := own1.rd (allL_bys step B HBL.out hr'.1 k) (by omega)
      have HM1 : Hid (m1 = (allL step B k).length) := own1.1
      clear own1
      have ht1 := ht.later hb1
      have hs1 := hb1.size
      go_wp2
      go_loopw [9, 10] (fun p i wr2 => ∃ q : Nat, q ≤ k ∧ i = .int .i64 (q : Int) ∧ p = .int .i64 (((allL step B q).length : Nat) : Int) ∧ Below wr.heap.size wr wr2) (fun _ i _ => k - (intOf i).toNat)
      case atStart => exact ⟨0, Nat.zero_le _, rfl, rfl, Below.refl _ _⟩
      case round =>
        obtain ⟨q, hq, rfl, rfl, hbr⟩ := hrel
        have hbt := hb1.trans (hbr.mono hs1)
        by_cases hqlt : q < k
        · have hqlt2 : (q : Int) < (k : Int) := by omega
          have hqm : (q : Int) % 18446744073709551616 = (q : Int) := by omega
          have hqr : (q : Int) % ((n' : Int) + 1) = ((q % (n' + 1) : Nat) : Int) := by simp
          have hql : q % (n' + 1) ≤ n' := by have := Nat.mod_lt q (show n' + 1 > 0 by omega); omega
          have hwr : IntKind.u64.wrap ((step : Int) * (q : Int)) = ((step * q % 18446744073709551616 : Nat) : Int) := by rw [IntKind.wrap_u64]; simp
          obtain ⟨rest, hsplit⟩ := allL_split step B k q hqlt
          obtain ⟨V, hV⟩ : ∃ V, V = step * q % 18446744073709551616 := ⟨_, rfl⟩
          rw [← hV] at hwr hsplit
          have hVl : V < 18446744073709551616 := by rw [hV]; exact Nat.mod_lt _ (by omega)
          have HV : Hid (V = step * q % 18446744073709551616) := hV
          clear hV
          obtain ⟨j, hj⟩ : ∃ j, j = q % (n' + 1) := ⟨_, rfl⟩
          rw [← HB.out, ← hj] at hsplit
          rw [← hj] at hqr hql
          have HJ : Hid (j = q % (n' + 1)) := hj
          clear hj
          have hjB : (B.take j).length ≤ 200 := by rw [List.length_take]; have := HBL.out; omega
          have T1 := uint_trip V hVl (allL step B q) (bytesL (B.take j) ++ rest)
          rw [← hsplit] at T1
          have T2 := bytes_trip (B.take j) (by omega) 200 hjB (allL step B q ++ uintL V) rest
          rw [List.append_assoc, ← hsplit, List.length_append] at T2
          have hL0 : (allL step B q).length ≤ (allL step B k).length := by rw [hsplit]; simp
          have hL1 : (allL step B q).length + (uintL V).length ≤ (allL step B k).length := by rw [hsplit]; simp
          have eN : (allL step B q).length + (uintL V).length + (bytesL (B.take j)).length = (allL step B (q + 1)).length := by
            simp only [allL, itemL]
            rw [← HV.out, ← HB.out, ← HJ.out]
            simp only [List.length_append]
            omega
          have hk47 : (allL step B k).length ≤ 140737488355328 := by rw [← HM1.out]; omega
          have hbyj : Bys (B.take j) := fun x hx => hr'.1 x (List.mem_of_mem_take hx)
          obtain ⟨P0, hP0⟩ : ∃ P0, P0 = (allL step B q).length := ⟨_, rfl⟩
          obtain ⟨P1, hP1⟩ : ∃ P1, P1 = (allL step B q).length + (uintL V).length := ⟨_, rfl⟩
          obtain ⟨P2, hP2⟩ : ∃ P2, P2 = P1 + (bytesL (B.take j)).length := ⟨_, rfl⟩
          rw [← hP1] at T1 T2 hL1
          rw [← hP2] at T2
          have HP2 : Hid (P2 = (allL step B (q + 1)).length) := by unfold Hid; rw [hP2, hP1]; exact eN
          rw [← hP0] at hL0 T1 ⊢
          have HT1 : Hid (uintR (allL step B k) P0 = (V, P1, 0)) := T1
          have HT2 : Hid (bytesR (allL step B k) P1 200 = (B.take j, P2, 0)) := T2
          have HL0 : Hid (P0 ≤ (allL step B k).length) := hL0
          have HL1 : Hid (P1 ≤ (allL step B k).length) := hL1
          have HK47 : Hid ((allL step B k).length ≤ 140737488355328) := hk47
          have HBJ : Hid (Bys (B.take j)) := hbyj
          have HJ2 : Hid ((B.take j).length ≤ 200) := hjB
          have rall2 := rall.later hbr
          have eqV : ((V : Int) != (V : Int)) = false := by simp
          clear T1 T2 hL0 hL1 hk47 hbyj hsplit eN hP0 hP1 hP2 hjB
          go_wp2_with fail
          refine (readUint_at rall2 _ P0 rfl HL0.out HT1.out).mono ?_
          rintro e w2 ⟨rfl, rfl⟩
          go_wp2_with fail
          refine (num_any _ _).mono ?_
          rintro e w3 ⟨rfl, rfl⟩
          go_wp2_with fail
          refine (readBytes_at rall2 _ P1 rfl _ 200 rfl HL1.out (by omega) HK47.out HT2.out).mono ?_
          rintro e w4 ⟨a4, m4, c4, rfl, own4, hb4⟩
          have r4 := own4.rd HBJ.out (by have := own4.1; have := HJ2.out; omega)
          have hb4' := hbt.trans (hb4.mono hbt.size)
          have hbr4 := hbr.trans (hb4.mono hbr.size)
          have rj := PART.out j hql hb4'
          clear own4 hb4 rall2
          go_wp2_with fail
          refine (num_any _ _).mono ?_
          rintro e w5 ⟨rfl, rfl⟩
          go_wp2_with fail
          refine (same_any r4 rj).mono ?_
          rintro e w6 ⟨rfl, rfl⟩
          rw [show decide (B.take j = B.take j) = true by simp]
          go_wp2
          go_roundw
          case rel => exact ⟨q + 1, by omega, by go_num, by rw [← HP2.out], hbr4⟩
          case measure => simp [intOf]; omega
        · have hge2 : (k : Int) ≤ (q : Int) := by omega
          obtain rfl : q = k := by omega
          have e9 : (((allL step B q).length : Nat) : Int) = (m1 : Int) := by rw [HM1.out]
          rw [e9]
          clear e9
          have ht2 := ht1.later hbr
          have em : ((m1 : Int) == (m1 : Int)) = true := by simp
          go_wp2_with fail
          refine (started_any ht2).mono ?_
          rintro e w7 ⟨rfl, hb7⟩
          have hb7' := hbt.trans (hb7.mono hbt.size)
          clear hb7
          go_wp2
          go_ret
          exact ⟨rfl, hb7'⟩

theorem many_walk2 (z x : Int) {vb : Value} {bs : List Nat} {w : World} (wz : (Lit.int .i64 z).wf = true) (wx : (Lit.int .u64 x).wf = true) (hr : Rd w vb bs) (ht : Tab w) :
    Calls Tryd.prog 6 #[.int .i64 z, .int .u64 x, vb] w fun e w' => e = .returned (.bool true) ∧ Below w.heap.size w w' := by
  have h1 := bounds_i64 wz
  have h2 := bounds_u64 wx
  obtain ⟨s, rfl⟩ := Int.eq_ofNat_of_zero_le h2.1
  exact many_walk z s (by omega) (by omega) (by omega) hr ht

end Go.Proofs.YtbfeecnhmlcfaaaDoor
