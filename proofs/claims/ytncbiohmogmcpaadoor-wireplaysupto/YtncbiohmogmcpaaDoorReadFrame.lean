import Derived.Test.YtncbiohmogmcpaaDoorFrame2
namespace Go.Proofs.YtncbiohmogmcpaaDoor
open Go.RowKit
set_option linter.unusedVariables false

/-- What readHead answers: the length, the error. -/
def headR (bs : List Nat) : Nat × Nat :=
  if bs.length < 8 then (0, 10)
  else if rdle (bs.getD 4 0) (bs.getD 5 0) (bs.getD 6 0) (bs.getD 7 0) ≠ sumL (bs.take 4) then (0, 12)
  else if 1048576 < rdle (bs.getD 3 0) (bs.getD 2 0) (bs.getD 1 0) (bs.getD 0 0) then (0, 13)
  else (rdle (bs.getD 3 0) (bs.getD 2 0) (bs.getD 1 0) (bs.getD 0 0), 0)

set_option maxRecDepth 100000 in
set_option maxHeartbeats 1000000 in
theorem readHead_any {v : Value} {bs : List Nat} {w : World} (hr : Rd w v bs) (ht : Tab w) :
    Calls Tryd.prog 57 #[v] w fun e w' => e = .returned (.tuple #[.int .i64 (((headR bs).1 : Nat) : Int), .int .i64 (((headR bs).2 : Nat) : Int)]) ∧ Below w.heap.size w w' := by
  obtain ⟨a, n, cap, rfl⟩ := rd_slice hr
  obtain ⟨hn, hle, hm, hl48⟩ := rd_lens hr
  have HN : Hid (n = bs.length) := hn
  clear hn
  unfold maxLen at hm
  by_cases h8 : n < 8
  · have h8' : (n : Int) < 8 := by omega
    have hh : headR bs = (0, 10) := by unfold headR; rw [if_pos (by rw [← HN.out]; exact h8)]
    rw [hh]
    go_enter Tryd.func57, Tryd.ntmps57
    go_wp2
    go_ret2
    exact ⟨rfl, Below.refl _ _⟩
  have h8' : (8 : Int) ≤ (n : Int) := by omega
  have g4 : (4 : Int) ≤ (n : Int) := by omega
  have g5 : (4 : Int) ≤ (cap : Int) := by omega
  have hne : ¬ (cap = 4) := by omega
  rcases rd_some hr with ⟨_, h0, _⟩ | ⟨b, off, rfl⟩
  · omega
  have r4 := hr.past 4 (by omega) (off' := off + 4) rfl rfl rfl
  have rl := hr.upto 4 (by omega)
  have hlen : (bs.drop 4).length = n - 4 := by rw [HN.out]; simp
  have lby := rdle_lt _ _ _ _ (r4.1.get 0) (r4.1.get 1) (r4.1.get 2) (r4.1.get 3)
  have eqs : rdle ((bs.drop 4).getD 0 0) ((bs.drop 4).getD 1 0) ((bs.drop 4).getD 2 0) ((bs.drop 4).getD 3 0) = rdle (bs.getD 4 0) (bs.getD 5 0) (bs.getD 6 0) (bs.getD 7 0) := by simp
  have eql : rdle ((bs.take 4).getD 3 0) ((bs.take 4).getD 2 0) ((bs.take 4).getD 1 0) ((bs.take 4).getD 0 0) = rdle (bs.getD 3 0) (bs.getD 2 0) (bs.getD 1 0) (bs.getD 0 0) := by simp
  have hll : (bs.take 4).length = 4 := by rw [List.length_take, ← HN.out]; omega
  obtain ⟨S, hS⟩ : ∃ S, S = rdle ((bs.drop 4).getD 0 0) ((bs.drop 4).getD 1 0) ((bs.drop 4).getD 2 0) ((bs.drop 4).getD 3 0) := ⟨_, rfl⟩
  obtain ⟨T, hT⟩ : ∃ T, T = sumL [bs.take 4].flatten := ⟨_, rfl⟩
  obtain ⟨L, hL⟩ : ∃ L, L = rdle ((bs.take 4).getD 3 0) ((bs.take 4).getD 2 0) ((bs.take 4).getD 1 0) ((bs.take 4).getD 0 0) := ⟨_, rfl⟩
  have lL : L < 4294967296 := hL ▸ rdle_lt _ _ _ _ (rl.1.get 3) (rl.1.get 2) (rl.1.get 1) (rl.1.get 0)
  have hh : headR bs = if S ≠ T then (0, 12) else if 1048576 < L then (0, 13) else (L, 0) := by
    unfold headR
    rw [if_neg (by rw [← HN.out]; exact h8), hS, hT, hL, eqs, eql]
    simp
  rw [hh]
  have HHS : Hid (S = rdle ((bs.drop 4).getD 0 0) ((bs.drop 4).getD 1 0) ((bs.drop 4).getD 2 0) ((bs.drop 4).getD 3 0)) := hS
  have HHT : Hid (T = sumL [bs.take 4].flatten) := hT
  have HHL : Hid (L = rdle ((bs.take 4).getD 3 0) ((bs.take 4).getD 2 0) ((bs.take 4).getD 1 0) ((bs.take 4).getD 0 0)) := hL
  have H4 : Hid (4 ≤ (bs.drop 4).length) := by unfold Hid; omega
  have H5 : Hid (4 ≤ (bs.take 4).length) := by unfold Hid; omega
  clear hS hT hL hh eqs eql hlen hll lby
  by_cases hST : S = T
  · by_cases hbig : 1048576 < L
    · rw [if_neg (by simp [hST]), if_pos hbig]
      have e1 : ((S : Int) != (T : Int)) = false := by simp [hST]
      have e2 : (1048576 : Int) < (L : Int) := by omega
      have HST : Hid (S = T) := hST
      clear hST
      go_enter Tryd.func57, Tryd.ntmps57
      go_wp2_with fail
      refine (readSum_any r4 H4.out).mono ?_
      rintro e w1 ⟨rfl, hb1⟩
      rw [← HHS.out]
      go_wp2_with fail
      refine (sum_any (RdP.one (rl.later hb1)) ((ht.later hb1).later ((Below.refl _ _).alloc (Nat.le_refl _) _))).mono ?_
      rintro e w2 ⟨rfl, rfl⟩
      rw [← HHT.out]
      have hb2 := hb1.alloc hb1.size (.cells #[.slice (some ⟨b, off, none⟩) 4 cap] 27)
      go_wp2_with fail
      refine (readLength_any (rl.later hb2) H5.out).mono ?_
      rintro e w3 ⟨rfl, hb3⟩
      rw [← HHL.out]
      have hb3' := hb2.trans (hb3.mono hb2.size)
      clear hb3
      go_wp2
      go_ret2
      exact ⟨rfl, hb3'⟩
    · rw [if_neg (by simp [hST]), if_neg hbig]
      have e1 : ((S : Int) != (T : Int)) = false := by simp [hST]
      have e2 : (L : Int) ≤ 1048576 := by omega
      have HST : Hid (S = T) := hST
      clear hST
      go_enter Tryd.func57, Tryd.ntmps57
      go_wp2_with fail
      refine (readSum_any r4 H4.out).mono ?_
      rintro e w1 ⟨rfl, hb1⟩
      rw [← HHS.out]
      go_wp2_with fail
      refine (sum_any (RdP.one (rl.later hb1)) ((ht.later hb1).later ((Below.refl _ _).alloc (Nat.le_refl _) _))).mono ?_
      rintro e w2 ⟨rfl, rfl⟩
      rw [← HHT.out]
      have hb2 := hb1.alloc hb1.size (.cells #[.slice (some ⟨b, off, none⟩) 4 cap] 27)
      go_wp2_with fail
      refine (readLength_any (rl.later hb2) H5.out).mono ?_
      rintro e w3 ⟨rfl, hb3⟩
      rw [← HHL.out]
      have hb3' := hb2.trans (hb3.mono hb2.size)
      clear hb3
      go_wp2
      go_ret2
      exact ⟨rfl, hb3'⟩
  · rw [if_pos hST]
    have e1 : ((S : Int) != (T : Int)) = true := by simp; omega
    clear hST
    go_enter Tryd.func57, Tryd.ntmps57
    go_wp2_with fail
    refine (readSum_any r4 H4.out).mono ?_
    rintro e w1 ⟨rfl, hb1⟩
    rw [← HHS.out]
    go_wp2_with fail
    refine (sum_any (RdP.one (rl.later hb1)) ((ht.later hb1).later ((Below.refl _ _).alloc (Nat.le_refl _) _))).mono ?_
    rintro e w2 ⟨rfl, rfl⟩
    rw [← HHT.out]
    have hb2 := hb1.alloc hb1.size (.cells #[.slice (some ⟨b, off, none⟩) 4 cap] 27)
    go_wp2
    go_ret2
    exact ⟨rfl, hb2⟩

theorem headR_lt (bs : List Nat) : (headR bs).1 ≤ 1048576 ∧ (headR bs).2 ≤ 13 := by
  unfold headR
  split
  · simp
  · split
    · simp
    · split
      · simp
      · exact ⟨by show rdle _ _ _ _ ≤ _; omega, by simp⟩

/-- What ReadFrame answers: the body, the place behind it, the error. -/
def frameR (bs : List Nat) (k : Nat) : List Nat × Nat × Nat :=
  if (headR (bs.drop k)).2 ≠ 0 then ([], 0, (headR (bs.drop k)).2)
  else if bs.length < k + 8 + (headR (bs.drop k)).1 + 4 then ([], 0, 10)
  else if rdle ((bs.drop (k + 8 + (headR (bs.drop k)).1)).getD 0 0) ((bs.drop (k + 8 + (headR (bs.drop k)).1)).getD 1 0) ((bs.drop (k + 8 + (headR (bs.drop k)).1)).getD 2 0) ((bs.drop (k + 8 + (headR (bs.drop k)).1)).getD 3 0) ≠ sumL ((bs.drop (k + 8)).take (headR (bs.drop k)).1) then ([], 0, 12)
  else ((bs.drop (k + 8)).take (headR (bs.drop k)).1, k + 12 + (headR (bs.drop k)).1, 0)

set_option maxRecDepth 100000 in
set_option maxHeartbeats 400000 in
theorem readFrame_out {v : Value} {bs : List Nat} {w : World} (hr : Rd w v bs) (at_ : Int) (h : at_ < 0 ∨ (bs.length : Int) < at_) :
    Calls Tryd.prog 30 #[v, .int .i64 at_] w fun e w' => e = .returned (.tuple #[.slice none 0 0, .int .i64 0, .int .i64 1]) ∧ w' = w := by
  obtain ⟨a, n, cap, rfl⟩ := rd_slice hr
  obtain ⟨hn, hle, hm, hl48⟩ := rd_lens hr
  rw [← hn] at h
  clear hn hr
  have hd : decide (at_ < 0 ∨ (n : Int) < at_) = true := by simpa using h
  clear h
  go_enter Tryd.func30, Tryd.ntmps30
  go_wp2_with fail
  refine (outside_any at_ hl48).mono ?_
  rintro e w1 ⟨rfl, rfl⟩
  rw [hd]
  go_wp2
  go_ret3
  exact ⟨rfl, rfl⟩

theorem headR_nil : headR [] = (0, 10) := rfl

set_option maxRecDepth 100000 in
set_option maxHeartbeats 1000000 in
theorem readFrame_in {v : Value} {bs : List Nat} {w : World} (hr : Rd w v bs) (ht : Tab w) (k : Nat) (hk : k ≤ bs.length) (h47 : bs.length ≤ 140737488355328) :
    Calls Tryd.prog 30 #[v, .int .i64 (k : Int)] w fun e w' => ∃ a m c, e = .returned (.tuple #[.slice a m c, .int .i64 (((frameR bs k).2.1 : Nat) : Int), .int .i64 (((frameR bs k).2.2 : Nat) : Int)]) ∧ Own w' w.heap.size (.slice a m c) m (frameR bs k).1 ∧ Below w.heap.size w w' := by
  obtain ⟨a, n, cap, rfl⟩ := rd_slice hr
  obtain ⟨hn, hle, hm, hl48⟩ := rd_lens hr
  rw [← hn] at hk h47
  have HN : Hid (n = bs.length) := hn
  clear hn
  unfold maxLen at hm
  have hk2 : (k : Int) ≤ (n : Int) := by omega
  have hk0 : (0 : Int) ≤ (k : Int) := by omega
  have hd : decide ((k : Int) < 0 ∨ (n : Int) < (k : Int)) = false := by simp; omega
  by_cases hx : cap = k
  · -- nothing is there
    have hnk : n = k := by omega
    have hdrop : bs.drop k = [] := by rw [← hnk, HN.out]; simp
    have hf : frameR bs k = ([], 0, 10) := by unfold frameR; rw [hdrop, headR_nil]; rfl
    rw [hf]
    subst hnk
    have hcap : cap = n := hx
    clear hx
    subst hcap
    have hre : Rd w (.slice a 0 0) [] := Rd.zero w a
    clear hf hdrop
    go_enter Tryd.func30, Tryd.ntmps30
    go_wp2_with fail
    refine (outside_any _ hl48).mono ?_
    rintro e w1 ⟨rfl, rfl⟩
    rw [hd]
    go_wp2_with fail
    refine (readHead_any hre ht).mono ?_
    rintro e w2 ⟨rfl, hb2⟩
    rw [headR_nil]
    go_wp2
    go_ret3
    exact ⟨_, _, _, rfl, ⟨rfl, World.ownsRow_nil _ _ _ _⟩, hb2⟩
  · have hne : ¬ cap = k := hx
    rcases rd_some hr with ⟨h0, _⟩ | ⟨b, off, rfl⟩
    · omega
    clear hx
    have rk := hr.past k hk (off' := off + k) rfl rfl rfl
    obtain ⟨H, hH⟩ : ∃ H, H = headR (bs.drop k) := ⟨_, rfl⟩
    obtain ⟨L, E⟩ := H
    have hlt := headR_lt (bs.drop k)
    rw [← hH] at hlt
    simp only at hlt
    obtain ⟨hL, hE⟩ := hlt
    have HH : Hid ((L, E) = headR (bs.drop k)) := hH
    by_cases hE0 : E = 0
    · subst hE0
      have h8 : k + 8 ≤ n := by
        have h9 : ¬ (bs.drop k).length < 8 := by
          intro h
          have : headR (bs.drop k) = (0, 10) := by unfold headR; rw [if_pos h]
          rw [this] at hH
          cases hH
        rw [List.length_drop, ← HN.out] at h9
        omega
      have h8' : (k : Int) + 8 ≤ (n : Int) := by omega
      by_cases htorn : n < k + 8 + L + 4
      · have hf : frameR bs k = ([], 0, 10) := by unfold frameR; rw [← hH, ← HN.out]; simp [htorn]
        rw [hf]
        have e1 : (n : Int) - ((k : Int) + 8) < (L : Int) + 4 := by omega
        clear hf hH
        go_enter Tryd.func30, Tryd.ntmps30
        go_wp2_with fail
        refine (outside_any _ hl48).mono ?_
        rintro e w1 ⟨rfl, rfl⟩
        rw [hd]
        go_wp2_with fail
        refine (readHead_any rk ht).mono ?_
        rintro e w2 ⟨rfl, hb2⟩
        rw [← HH.out]
        go_wp2
        all_goals go_ret3
        all_goals exact ⟨_, _, _, rfl, ⟨rfl, World.ownsRow_nil _ _ _ _⟩, hb2⟩
      · have hc8 : ¬ cap = k + 8 := by omega
        have hcL : ¬ cap - (k + 8) = L := by omega
        have e1 : (L : Int) + 4 ≤ (n : Int) - ((k : Int) + 8) := by omega
        have rs := hr.past (k + 8 + L) (by omega) (off' := off + (k + 8) + L) (n' := n - (k + 8) - L) (cap' := cap - (k + 8) - L) (by omega) (by omega) (by omega)
        have rb := hr.sub (k + 8) (k + 8 + L) (by omega) (by omega) (off' := off + (k + 8)) (n' := L) (cap' := cap - (k + 8)) (by omega) (by omega) (by omega)
        have eb : (bs.take (k + 8 + L)).drop (k + 8) = (bs.drop (k + 8)).take L := by rw [List.drop_take]; congr 1; omega
        rw [eb] at rb
        obtain ⟨S, hS⟩ : ∃ S, S = rdle ((bs.drop (k + 8 + L)).getD 0 0) ((bs.drop (k + 8 + L)).getD 1 0) ((bs.drop (k + 8 + L)).getD 2 0) ((bs.drop (k + 8 + L)).getD 3 0) := ⟨_, rfl⟩
        obtain ⟨B, hB⟩ : ∃ B, B = (bs.drop (k + 8)).take L := ⟨_, rfl⟩
        rw [← hB] at rb
        have HHS : Hid (S = rdle ((bs.drop (k + 8 + L)).getD 0 0) ((bs.drop (k + 8 + L)).getD 1 0) ((bs.drop (k + 8 + L)).getD 2 0) ((bs.drop (k + 8 + L)).getD 3 0)) := hS
        obtain ⟨T, hT⟩ : ∃ T, T = sumL [B].flatten := ⟨_, rfl⟩
        have HHT : Hid (T = sumL [B].flatten) := hT
        have hT' : T = sumL B := by rw [hT]; simp
        have hf : frameR bs k = if S ≠ T then ([], 0, 12) else (B, k + 12 + L, 0) := by
          unfold frameR
          rw [← hH, ← HN.out]
          simp only [ne_eq, not_true_eq_false, if_false, htorn, ← hS, ← hB, ← hT']
        have H4 : Hid (4 ≤ (bs.drop (k + 8 + L)).length) := by unfold Hid; rw [List.length_drop, ← HN.out]; omega
        have HBL : Hid (B.length = L) := by unfold Hid; rw [hB, List.length_take, List.length_drop, ← HN.out]; omega
        rw [hf]
        clear hf hH hS hB hT hT' eb htorn
        by_cases hST : S = T
        · have e2 : ((S : Int) != (T : Int)) = false := by simp [hST]
          rw [if_neg (by simp [hST])]
          clear hST
          go_enter Tryd.func30, Tryd.ntmps30
          go_wp2_with fail
          refine (outside_any _ hl48).mono ?_
          rintro e w1 ⟨rfl, rfl⟩
          rw [hd]
          go_wp2_with fail
          refine (readHead_any rk ht).mono ?_
          rintro e w2 ⟨rfl, hb2⟩
          rw [← HH.out]
          go_wp2_with fail
          refine (readSum_any (rs.later hb2) H4.out).mono ?_
          rintro e w3 ⟨rfl, hb3⟩
          rw [← HHS.out]
          have hb3' := hb2.trans (hb3.mono hb2.size)
          clear hb3
          go_wp2_with fail
          refine (sum_any (RdP.one (rb.later hb3')) ((ht.later hb3').later ((Below.refl _ _).alloc (Nat.le_refl _) _))).mono ?_
          rintro e w4 ⟨rfl, rfl⟩
          rw [← HHT.out]
          have hb4 := hb3'.alloc hb3'.size (.cells #[.slice (some ⟨b, off + (k + 8), none⟩) L (cap - (k + 8))] 27)
          go_wp2_with fail
          refine (handed (clone_any (rb.later hb4) (by rw [HBL.out]; omega))).mono ?_
          rintro e w5 ⟨a5, m5, c5, rfl, own5, hb5⟩
          have hb5' := hb4.trans (hb5.mono hb4.size)
          have own5' : Own w5 w1.heap.size (.slice a5 m5 c5) m5 B := own5.mono hb4.size
          clear hb5 own5
          go_wp2
          go_ret3
          refine ⟨a5, m5, c5, ?_, own5', hb5'⟩
          have e9 : (k : Int) + 8 + (L : Int) + 4 = ((k + 12 + L : Nat) : Int) := by omega
          simp only [Array.getD, List.size_toArray, List.length_cons]
          exact congrArg (fun z : Int => Ending.returned (Value.tuple #[Value.slice a5 m5 c5, Value.int .i64 z, Value.int .i64 0])) e9
        · have e2 : ((S : Int) != (T : Int)) = true := by simp; omega
          rw [if_pos hST]
          clear hST
          go_enter Tryd.func30, Tryd.ntmps30
          go_wp2_with fail
          refine (outside_any _ hl48).mono ?_
          rintro e w1 ⟨rfl, rfl⟩
          rw [hd]
          go_wp2_with fail
          refine (readHead_any rk ht).mono ?_
          rintro e w2 ⟨rfl, hb2⟩
          rw [← HH.out]
          go_wp2_with fail
          refine (readSum_any (rs.later hb2) H4.out).mono ?_
          rintro e w3 ⟨rfl, hb3⟩
          rw [← HHS.out]
          have hb3' := hb2.trans (hb3.mono hb2.size)
          clear hb3
          go_wp2_with fail
          refine (sum_any (RdP.one (rb.later hb3')) ((ht.later hb3').later ((Below.refl _ _).alloc (Nat.le_refl _) _))).mono ?_
          rintro e w4 ⟨rfl, rfl⟩
          rw [← HHT.out]
          have hb4 := hb3'.alloc hb3'.size (.cells #[.slice (some ⟨b, off + (k + 8), none⟩) L (cap - (k + 8))] 27)
          go_wp2
          go_ret3
          exact ⟨_, _, _, rfl, ⟨rfl, World.ownsRow_nil _ _ _ _⟩, hb4⟩
    · have hf : frameR bs k = ([], 0, E) := by unfold frameR; rw [← hH]; simp [hE0]
      rw [hf]
      have e1 : ((E : Int) != 0) = true := by simp; omega
      clear hf hH
      go_enter Tryd.func30, Tryd.ntmps30
      go_wp2_with fail
      refine (outside_any _ hl48).mono ?_
      rintro e w1 ⟨rfl, rfl⟩
      rw [hd]
      go_wp2_with fail
      refine (readHead_any rk ht).mono ?_
      rintro e w2 ⟨rfl, hb2⟩
      rw [← HH.out]
      go_wp2
      go_ret3
      exact ⟨_, _, _, rfl, ⟨rfl, World.ownsRow_nil _ _ _ _⟩, hb2⟩

end Go.Proofs.YtncbiohmogmcpaaDoor
