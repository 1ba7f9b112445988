import Derived.Test.YtledfniedoapiaaDoorJ01
namespace Go.Proofs.YtledfniedoapiaaDoor
open Go.RowKit
set_option linter.unusedVariables false

/-- What readHead answers: the length, the error. -/
def headR (bs : List Nat) : Nat × Nat :=
  if bs.length < 8 then (0, 10)
  else if rdle (bs.getD 4 0) (bs.getD 5 0) (bs.getD 6 0) (bs.getD 7 0) ≠ sumL (bs.take 4) then (0, 12)
  else if 1048576 < rdle (bs.getD 3 0) (bs.getD 2 0) (bs.getD 1 0) (bs.getD 0 0) then (0, 13)
  else (rdle (bs.getD 3 0) (bs.getD 2 0) (bs.getD 1 0) (bs.getD 0 0), 0)

set_option maxRecDepth 100000 in
set_option maxHeartbeats 1000000 in
theorem readHead_any {v : Value} {bs : List Nat} {w : World} (hr : Rd w v bs) (ht : Tab w) :
    Calls Tryd.prog 51 #[v] w fun e w' => e = .returned (.tuple #[.int .i64 (((headR bs).1 : Nat) : Int), .int .i64 (((headR bs).2 : Nat) : Int)]) ∧ Below w.heap.size w w' := by
  obtain ⟨a, n, cap, rfl⟩ := rd_slice hr
  obtain ⟨hn, hle, hm, hl48⟩ := rd_lens hr
  have HN : Hid (n = bs.length) := hn
  clear hn
  unfold maxLen at hm
  by_cases h8 : n < 8
  · have h8' : (n : Int) < 8 := by omega
    have hh : headR bs = (0, 10) := by unfold headR; rw [if_pos (by rw [← HN.out]; exact h8)]
    rw [hh]
    go_enter Tryd.func51, Tryd.ntmps51
    go_wp2
    go_ret2
    exact ⟨rfl, Below.refl _ _⟩
  have h8' : (8 : Int) ≤ (n : Int) := by omega
  have g4 : (4 : Int) ≤ (n : Int) := by omega
  have g5 : (4 : Int) ≤ (cap : Int) := by omega
  have hne : ¬ (cap = 4) := by omega
  rcases rd_some hr with ⟨_, h0, _⟩ | ⟨b, off, rfl⟩
  · omega
  have r4 := hr.past 4 (by omega) (off' := off + 4) rfl rfl rfl
  have rl := hr.upto 4 (by omega)
  have hlen : (bs.drop 4).length = n - 4 := by rw [HN.out]; simp
  have lby := rdle_lt _ _ _ _ (r4.1.get 0) (r4.1.get 1) (r4.1.get 2) (r4.1.get 3)
  have eqs : rdle ((bs.drop 4).getD 0 0) ((bs.drop 4).getD 1 0) ((bs.drop 4).getD 2 0) ((bs.drop 4).getD 3 0) = rdle (bs.getD 4 0) (bs.getD 5 0) (bs.getD 6 0) (bs.getD 7 0) := by simp
  have eql : rdle ((bs.take 4).getD 3 0) ((bs.take 4).getD 2 0) ((bs.take 4).getD 1 0) ((bs.take 4).getD 0 0) = rdle (bs.getD 3 0) (bs.getD 2 0) (bs.getD 1 0) (bs.getD 0 0) := by simp
  have hll : (bs.take 4).length = 4 := by rw [List.length_take, ← HN.out]; omega
  obtain ⟨S, hS⟩ : ∃ S, S = rdle ((bs.drop 4).getD 0 0) ((bs.drop 4).getD 1 0) ((bs.drop 4).getD 2 0) ((bs.drop 4).getD 3 0) := ⟨_, rfl⟩
  obtain ⟨T, hT⟩ : ∃ T, T = sumL [bs.take 4].flatten := ⟨_, rfl⟩
  obtain ⟨L, hL⟩ : ∃ L, L = rdle ((bs.take 4).getD 3 0) ((bs.take 4).getD 2 0) ((bs.take 4).getD 1 0) ((bs.take 4).getD 0 0) := ⟨_, rfl⟩
  have lL : L < 4294967296 := hL ▸ rdle_lt _ _ _ _ (rl.1.get 3) (rl.1.get 2) (rl.1.get 1) (rl.1.get 0)
  have hh : headR bs = if S ≠ T then (0, 12) else if 1048576 < L then (0, 13) else (L, 0) := by
    unfold headR
    rw [if_neg (by rw [← HN.out]; exact h8), hS, hT, hL, eqs, eql]
    simp
  rw [hh]
  have HHS : Hid (S = rdle ((bs.drop 4).getD 0 0) ((bs.drop 4).getD 1 0) ((bs.drop 4).getD 2 0) ((bs.drop 4).getD 3 0)) := hS
  have HHT : Hid (T = sumL [bs.take 4].flatten) := hT
  have HHL : Hid (L = rdle ((bs.take 4).getD 3 0) ((bs.take 4).getD 2 0) ((bs.take 4).getD 1 0) ((bs.take 4).getD 0 0)) := hL
  have H4 : Hid (4 ≤ (bs.drop 4).length) := by unfold Hid; omega
  have H5 : Hid (4 ≤ (bs.take 4).length) := by unfold Hid; omega
  clear hS hT hL hh eqs eql hlen hll lby
  by_cases hST : S = T
  · by_cases hbig : 1048576 < L
    · rw [if_neg (by simp [hST]), if_pos hbig]
      have e1 : ((S : Int) != (T : Int)) = false := by simp [hST]
      have e2 : (1048576 : Int) < (L : Int) := by omega
      have HST : Hid (S = T) := hST
      clear hST
      go_enter Tryd.func51, Tryd.ntmps51
      go_wp2_with fail
      refine (readSum_any r4 H4.out).mono ?_
      rintro e w1 ⟨rfl, hb1⟩
      rw [← HHS.out]
      go_wp2_with fail
      refine (sum_any (RdP.one (rl.later hb1)) ((ht.later hb1).later ((Below.refl _ _).alloc (Nat.le_refl _) _))).mono ?_
      rintro e w2 ⟨rfl, rfl⟩
      rw [← HHT.out]
      have hb2 := hb1.alloc hb1.size (.cells #[.slice (some ⟨b, off, none⟩) 4 cap] 23)
      go_wp2_with fail
      refine (readLength_any (rl.later hb2) H5.out).mono ?_
      rintro e w3 ⟨rfl, hb3⟩
      rw [← HHL.out]
      have hb3' := hb2.trans (hb3.mono hb2.size)
      clear hb3
      go_wp2
      go_ret2
      exact ⟨rfl, hb3'⟩
    · rw [if_neg (by simp [hST]), if_neg hbig]
      have e1 : ((S : Int) != (T : Int)) = false := by simp [hST]
      have e2 : (L : Int) ≤ 1048576 := by omega
      have HST : Hid (S = T) := hST
      clear hST
      go_enter Tryd.func51, Tryd.ntmps51
      go_wp2_with fail
      refine (readSum_any r4 H4.out).mono ?_
      rintro e w1 ⟨rfl, hb1⟩
      rw [← HHS.out]
      go_wp2_with fail
      refine (sum_any (RdP.one (rl.later hb1)) ((ht.later hb1).later ((Below.refl _ _).alloc (Nat.le_refl _) _))).mono ?_
      rintro e w2 ⟨rfl, rfl⟩
      rw [← HHT.out]
      have hb2 := hb1.alloc hb1.size (.cells #[.slice (some ⟨b, off, none⟩) 4 cap] 23)
      go_wp2_with fail
      refine (readLength_any (rl.later hb2) H5.out).mono ?_
      rintro e w3 ⟨rfl, hb3⟩
      rw [← HHL.out]
      have hb3' := hb2.trans (hb3.mono hb2.size)
      clear hb3
      go_wp2
      go_ret2
      exact ⟨rfl, hb3'⟩
  · rw [if_pos hST]
    have e1 : ((S : Int) != (T : Int)) = true := by simp; omega
    clear hST
    go_enter Tryd.func51, Tryd.ntmps51
    go_wp2_with fail
    refine (readSum_any r4 H4.out).mono ?_
    rintro e w1 ⟨rfl, hb1⟩
    rw [← HHS.out]
    go_wp2_with fail
    refine (sum_any (RdP.one (rl.later hb1)) ((ht.later hb1).later ((Below.refl _ _).alloc (Nat.le_refl _) _))).mono ?_
    rintro e w2 ⟨rfl, rfl⟩
    rw [← HHT.out]
    have hb2 := hb1.alloc hb1.size (.cells #[.slice (some ⟨b, off, none⟩) 4 cap] 23)
    go_wp2
    go_ret2
    exact ⟨rfl, hb2⟩

theorem headR_lt (bs : List Nat) : (headR bs).1 ≤ 1048576 ∧ (headR bs).2 ≤ 13 := by
  unfold headR
  split
  · simp
  · split
    · simp
    · split
      · simp
      · exact ⟨by show rdle _ _ _ _ ≤ _; omega, by simp⟩

/-- What ReadFrame answers: the body, the place behind it, the error. -/
def frameR (bs : List Nat) (k : Nat) : List Nat × Nat × Nat :=
  if (headR (bs.drop k)).2 ≠ 0 then ([], 0, (headR (bs.drop k)).2)
  else if bs.length < k + 8 + (headR (bs.drop k)).1 + 4 then ([], 0, 10)
  else if rdle ((bs.drop (k + 8 + (headR (bs.drop k)).1)).getD 0 0) ((bs.drop (k + 8 + (headR (bs.drop k)).1)).getD 1 0) ((bs.drop (k + 8 + (headR (bs.drop k)).1)).getD 2 0) ((bs.drop (k + 8 + (headR (bs.drop k)).1)).getD 3 0) ≠ sumL ((bs.drop (k + 8)).take (headR (bs.drop k)).1) then ([], 0, 12)
  else ((bs.drop (k + 8)).take (headR (bs.drop k)).1, k + 12 + (headR (bs.drop k)).1, 0)

set_option maxRecDepth 100000 in
set_option maxHeartbeats 400000 in
theorem readFrame_out {v : Value} {bs : List Nat} {w : World} (hr : Rd w v bs) (at_ : Int) (h : at_ < 0 ∨ (bs.length : Int) < at_) :
    Calls Tryd.prog 24 #[v, .int .i64 at_] w fun e w' => e = .returned (.tuple #[.slice none 0 0, .int .i64 0, .int .i64 1]) ∧ w' = w := by
  obtain ⟨a, n, cap, rfl⟩ := rd_slice hr
  obtain ⟨hn, hle, hm, hl48⟩ := rd_lens hr
  rw [← hn] at h
  clear hn hr
  have hd : decide (at_ < 0 ∨ (n : Int) < at_) = true := by simpa using h
  clear h
  go_enter Tryd.func24, Tryd.ntmps24
  go_wp2_with fail
  refine (outside_any at_ hl48).mono ?_
  rintro e w1 ⟨rfl, rfl⟩
  rw [hd]
  go_wp2
  go_ret3
  exact ⟨rfl, rfl⟩

theorem headR_nil : headR [] = (0, 10) := rfl

set_option maxRecDepth 100000 in
set_option maxHeartbeats 1000000 in
theorem readFrame_in {v : Value} {bs : List Nat} {w : World} (hr : Rd w v bs) (ht : Tab w) (k : Nat) (hk : k ≤ bs.length) (h47 : bs.length ≤ 140737488355328) :
    Calls Tryd.prog 24 #[v, .int .i64 (k : Int)] w fun e w' => ∃ a m c, e = .returned (.tuple #[.slice a m c, .int .i64 (((frameR bs k).2.1 : Nat) : Int), .int .i64 (((frameR bs k).2.2 : Nat) : Int)]) ∧ Own w' w.heap.size (.slice a m c) m (frameR bs k).1 ∧ Below w.heap.size w w' := by
  obtain ⟨a, n, cap, rfl⟩ := rd_slice hr
  obtain ⟨hn, hle, hm, hl48⟩ := rd_lens hr
  rw [← hn] at hk h47
  have HN : Hid (n = bs.length) := hn
  clear hn
  unfold maxLen at hm
  have hk2 : (k : Int) ≤ (n : Int) := by omega
  have hk0 : (0 : Int) ≤ (k : Int) := by omega
  have hd : decide ((k : Int) < 0 ∨ (n : Int) < (k : Int)) = false := by simp; omega
  by_cases hx : cap = k
  · -- nothing is there
    have hnk : n = k := by omega
    have hdrop : bs.drop k = [] := by rw [← hnk, HN.out]; simp
    have hf : frameR bs k = ([], 0, 10) := by unfold frameR; rw [hdrop, headR_nil]; rfl
    rw [hf]
    subst hnk
    have hcap : cap = n := hx
    clear hx
    subst hcap
    have hre : Rd w (.slice a 0 0) [] := Rd.zero w a
    clear hf hdrop
    go_enter Tryd.func24, Tryd.ntmps24
    go_wp2_with fail
    refine (outside_any _ hl48).mono ?_
    rintro e w1 ⟨rfl, rfl⟩
    rw [hd]
    go_wp2_with fail
    refine (readHead_any hre ht).mono ?_
    rintro e w2 ⟨rfl, hb2⟩
    rw [headR_nil]
    go_wp2
    go_ret3
    exact ⟨_, _, _, rfl, ⟨rfl, World.ownsRow_nil _ _ _ _⟩, hb2⟩
  · have hne : ¬ cap = k := hx
    rcases rd_some hr with ⟨h0, _⟩ | ⟨b, off, rfl⟩
    · omega
    clear hx
    have rk := hr.past k hk (off' := off + k) rfl rfl rfl
    obtain ⟨H, hH⟩ : ∃ H, H = headR (bs.drop k) := ⟨_, rfl⟩
    obtain ⟨L, E⟩ := H
    have hlt := headR_lt (bs.drop k)
    rw [← hH] at hlt
    simp only at hlt
    obtain ⟨hL, hE⟩ := hlt
    have HH : Hid ((L, E) = headR (bs.drop k)) := hH
    by_cases hE0 : E = 0
    · subst hE0
      have h8 : k + 8 ≤ n := by
        have h9 : ¬ (bs.drop k).length < 8 := by
          intro h
          have : headR (bs.drop k) = (0, 10) := by unfold headR; rw [if_pos h]
          rw [this] at hH
          cases hH
        rw [List.length_drop, ← HN.out] at h9
        omega
      have h8' : (k : Int) + 8 ≤ (n : Int) := by omega
      by_cases htorn : n < k + 8 + L + 4
      · have hf : frameR bs k = ([], 0, 10) := by unfold frameR; rw [← hH, ← HN.out]; simp [htorn]
        rw [hf]
        have e1 : (n : Int) - ((k : Int) + 8) < (L : Int) + 4 := by omega
        clear hf hH
        go_enter Tryd.func24, Tryd.ntmps24
        go_wp2_with fail
        refine (outside_any _ hl48).mono ?_
        rintro e w1 ⟨rfl, rfl⟩
        rw [hd]
        go_wp2_with fail
        refine (readHead_any rk ht).mono ?_
        rintro e w2 ⟨rfl, hb2⟩
        rw [← HH.out]
        go_wp2
        all_goals go_ret3
        all_goals exact ⟨_, _, _, rfl, ⟨rfl, World.ownsRow_nil _ _ _ _⟩, hb2⟩
      · have hc8 : ¬ cap = k + 8 := by omega
        have hcL : ¬ cap - (k + 8) = L := by omega
        have e1 : (L : Int) + 4 ≤ (n : Int) - ((k : Int) + 8) := by omega
        have rs := hr.past (k + 8 + L) (by omega) (off' := off + (k + 8) + L) (n' := n - (k + 8) - L) (cap' := cap - (k + 8) - L) (by omega) (by omega) (by omega)
        have rb := hr.sub (k + 8) (k + 8 + L) (by omega) (by omega) (off' := off + (k + 8)) (n' := L) (cap' := cap - (k + 8)) (by omega) (by omega) (by omega)
        have eb : (bs.take (k + 8 + L)).drop (k + 8) = (bs.drop (k + 8)).take L := by rw [List.drop_take]; congr 1; omega
        rw [eb] at rb
        obtain ⟨S, hS⟩ : ∃ S, S = rdle ((bs.drop (k + 8 + L)).getD 0 0) ((bs.drop (k + 8 + L)).getD 1 0) ((bs.drop (k + 8 + L)).getD 2 0) ((bs.drop (k + 8 + L)).getD 3 0) := ⟨_, rfl⟩
        obtain ⟨B, hB⟩ : ∃ B, B = (bs.drop (k + 8)).take L := ⟨_, rfl⟩
        rw [← hB] at rb
        have HHS : Hid (S = rdle ((bs.drop (k + 8 + L)).getD 0 0) ((bs.drop (k + 8 + L)).getD 1 0) ((bs.drop (k + 8 + L)).getD 2 0) ((bs.drop (k + 8 + L)).getD 3 0)) := hS
        obtain ⟨T, hT⟩ : ∃ T, T = sumL [B].flatten := ⟨_, rfl⟩
        have HHT : Hid (T = sumL [B].flatten) := hT
        have hT' : T = sumL B := by rw [hT]; simp
        have hf : frameR bs k = if S ≠ T then ([], 0, 12) else (B, k + 12 + L, 0) := by
          unfold frameR
          rw [← hH, ← HN.out]
          simp only [ne_eq, not_true_eq_false, if_false, htorn, ← hS, ← hB, ← hT']
        have H4 : Hid (4 ≤ (bs.drop (k + 8 + L)).length) := by unfold Hid; rw [List.length_drop, ← HN.out]; omega
        have HBL : Hid (B.length = L) := by unfold Hid; rw [hB, List.length_take, List.length_drop, ← HN.out]; omega
        rw [hf]
        clear hf hH hS hB hT hT' eb htorn
        by_cases hST : S = T
        · have e2 : ((S : Int) != (T : Int)) = false := by simp [hST]
          rw [if_neg (by simp [hST])]
          clear hST
          go_enter Tryd.func24, Tryd.ntmps24
          go_wp2_with fail
          refine (outside_any _ hl48).mono ?_
          rintro e w1 ⟨rfl, rfl⟩
          rw [hd]
          go_wp2_with fail
          refine (readHead_any rk ht).mono ?_
          rintro e w2 ⟨rfl, hb2⟩
          rw [← HH.out]
          go_wp2_with fail
          refine (readSum_any (rs.later hb2) H4.out).mono ?_
          rintro e w3 ⟨rfl, hb3⟩
          rw [← HHS.out]
          have hb3' := hb2.trans (hb3.mono hb2.size)
          clear hb3
          go_wp2_with fail
          refine (sum_any (RdP.one (rb.later hb3')) ((ht.later hb3').later ((Below.refl _ _).alloc (Nat.le_refl _) _))).mono ?_
          rintro e w4 ⟨rfl, rfl⟩
          rw [← HHT.out]
          have hb4 := hb3'.alloc hb3'.size (.cells #[.slice (some ⟨b, off + (k + 8), none⟩) L (cap - (k + 8))] 23)
          go_wp2_with fail
          refine (handed (clone_any (rb.later hb4) (by rw [HBL.out]; omega))).mono ?_
          rintro e w5 ⟨a5, m5, c5, rfl, own5, hb5⟩
          have hb5' := hb4.trans (hb5.mono hb4.size)
          have own5' : Own w5 w1.heap.size (.slice a5 m5 c5) m5 B := own5.mono hb4.size
          clear hb5 own5
          go_wp2
          go_ret3
          refine ⟨a5, m5, c5, ?_, own5', hb5'⟩
          have e9 : (k : Int) + 8 + (L : Int) + 4 = ((k + 12 + L : Nat) : Int) := by omega
          simp only [Array.getD, List.size_toArray, List.length_cons]
          exact congrArg (fun z : Int => Ending.returned (Value.tuple #[Value.slice a5 m5 c5, Value.int .i64 z, Value.int .i64 0])) e9
        · have e2 : ((S : Int) != (T : Int)) = true := by simp; omega
          rw [if_pos hST]
          clear hST
          go_enter Tryd.func24, Tryd.ntmps24
          go_wp2_with fail
          refine (outside_any _ hl48).mono ?_
          rintro e w1 ⟨rfl, rfl⟩
          rw [hd]
          go_wp2_with fail
          refine (readHead_any rk ht).mono ?_
          rintro e w2 ⟨rfl, hb2⟩
          rw [← HH.out]
          go_wp2_with fail
          refine (readSum_any (rs.later hb2) H4.out).mono ?_
          rintro e w3 ⟨rfl, hb3⟩
          rw [← HHS.out]
          have hb3' := hb2.trans (hb3.mono hb2.size)
          clear hb3
          go_wp2_with fail
          refine (sum_any (RdP.one (rb.later hb3')) ((ht.later hb3').later ((Below.refl _ _).alloc (Nat.le_refl _) _))).mono ?_
          rintro e w4 ⟨rfl, rfl⟩
          rw [← HHT.out]
          have hb4 := hb3'.alloc hb3'.size (.cells #[.slice (some ⟨b, off + (k + 8), none⟩) L (cap - (k + 8))] 23)
          go_wp2
          go_ret3
          exact ⟨_, _, _, rfl, ⟨rfl, World.ownsRow_nil _ _ _ _⟩, hb4⟩
    · have hf : frameR bs k = ([], 0, E) := by unfold frameR; rw [← hH]; simp [hE0]
      rw [hf]
      have e1 : ((E : Int) != 0) = true := by simp; omega
      clear hf hH
      go_enter Tryd.func24, Tryd.ntmps24
      go_wp2_with fail
      refine (outside_any _ hl48).mono ?_
      rintro e w1 ⟨rfl, rfl⟩
      rw [hd]
      go_wp2_with fail
      refine (readHead_any rk ht).mono ?_
      rintro e w2 ⟨rfl, hb2⟩
      rw [← HH.out]
      go_wp2
      go_ret3
      exact ⟨_, _, _, rfl, ⟨rfl, World.ownsRow_nil _ _ _ _⟩, hb2⟩

end Go.Proofs.YtledfniedoapiaaDoor

namespace Go.Proofs.YtledfniedoapiaaDoor
open Go.RowKit
set_option linter.unusedVariables false

/-- What ReadUint reads of the bytes from a place on: i bytes are read, v is what they say; f: how many may follow. The number, how many bytes, the error. -/
def ruint : Nat → List Nat → Nat → Nat → Nat × Nat × Nat
  | _, [], _, _ => (0, 0, 10)
  | 0, c :: _, i, v => if i = 9 ∧ 1 < c then (0, 0, 13) else if 128 ≤ c then (0, 0, 13) else if c = 0 ∧ 0 < i then (0, 0, 11) else (v + c % 128 * 128 ^ i, i + 1, 0)
  | f + 1, c :: r, i, v => if i = 9 ∧ 1 < c then (0, 0, 13) else if 128 ≤ c then ruint f r (i + 1) (v + c % 128 * 128 ^ i) else if c = 0 ∧ 0 < i then (0, 0, 11) else (v + c % 128 * 128 ^ i, i + 1, 0)
/-- The number, the place behind it, the error. -/
def uintR (bs : List Nat) (k : Nat) : Nat × Nat × Nat :=
  ((ruint 9 (bs.drop k) 0 0).1, if (ruint 9 (bs.drop k) 0 0).2.2 = 0 then k + (ruint 9 (bs.drop k) 0 0).2.1 else 0, (ruint 9 (bs.drop k) 0 0).2.2)

set_option maxRecDepth 100000 in
set_option maxHeartbeats 400000 in
theorem readUint_out {v : Value} {bs : List Nat} {w : World} (hr : Rd w v bs) (at_ : Int) (h : at_ < 0 ∨ (bs.length : Int) < at_) :
    Calls Tryd.prog 26 #[v, .int .i64 at_] w fun e w' => e = .returned (.tuple #[.int .u64 0, .int .i64 0, .int .i64 1]) ∧ w' = w := by
  obtain ⟨a, n, cap, rfl⟩ := rd_slice hr
  obtain ⟨hn, hle, hm, hl48⟩ := rd_lens hr
  rw [← hn] at h
  clear hn hr
  have hd : decide (at_ < 0 ∨ (n : Int) < at_) = true := by simpa using h
  clear h
  go_enter Tryd.func26, Tryd.ntmps26
  go_wp2_with fail
  refine (outside_any at_ hl48).mono ?_
  rintro e w1 ⟨rfl, rfl⟩
  rw [hd]
  go_wp2
  go_ret3
  exact ⟨rfl, rfl⟩

theorem and7f (c : Nat) (h : c < 256) : bits .and .u8 (c : Int) 127 = ((c % 128 : Nat) : Int) := by
  have := u8_and_nat c 127 h (by omega)
  rw [nat_mask7] at this
  exact this
theorem and80 (c : Nat) (h : c < 256) : bits .and .u8 (c : Int) 128 = ((c / 128 * 128 : Nat) : Int) := by
  have := u8_and_nat c 128 h (by omega)
  rw [show (128 : Nat) = 2 ^ 7 from rfl, nat_bit 7 c] at this
  have h2 : c / 2 ^ 7 % 2 * 2 ^ 7 = c / 128 * 128 := by omega
  rw [h2] at this
  exact this

theorem pow7 (i : Nat) : 2 ^ (7 * i) = 128 ^ i := by rw [Nat.pow_mul]
theorem shl_lt (c i : Nat) (hi : i ≤ 9) (h9 : i = 9 → c ≤ 1) : c % 128 * 128 ^ i < 18446744073709551616 := by
  by_cases h : i = 9
  · have := h9 h
    subst h
    have : c % 128 ≤ 1 := by omega
    calc c % 128 * 128 ^ 9 ≤ 1 * 128 ^ 9 := Nat.mul_le_mul_right _ this
      _ < 18446744073709551616 := by decide
  · have h1 : 128 ^ i ≤ 128 ^ 8 := Nat.pow_le_pow_right (by omega) (by omega)
    calc c % 128 * 128 ^ i ≤ 127 * 128 ^ 8 := Nat.mul_le_mul (by omega) h1
      _ < 18446744073709551616 := by decide
theorem orshift (q c i : Nat) (hi : i ≤ 9) (hq : q < 128 ^ i) (h9 : i = 9 → c ≤ 1) : bits .or .u64 (q : Int) (IntKind.u64.wrap ((c : Int) % 128 * 2 ^ (7 * i))) = ((q + c % 128 * 128 ^ i : Nat) : Int) := by
  have hx := shl_lt c i hi h9
  have e1 : ((c : Int) % 128 * 2 ^ (7 * i)) = ((c % 128 * 128 ^ i : Nat) : Int) := by
    rw [← pow7 i]; simp
  have hq64 : q < 18446744073709551616 := Nat.lt_of_lt_of_le hq (by
    have h1 : 128 ^ i ≤ 128 ^ 9 := Nat.pow_le_pow_right (by omega) hi
    exact Nat.le_trans h1 (by decide))
  rw [e1, IntKind.wrap_u64]
  have e2 : ((c % 128 * 128 ^ i : Nat) : Int) % 18446744073709551616 = ((c % 128 * 128 ^ i : Nat) : Int) := by omega
  rw [e2, u64_or_nat _ _ hq64 hx, Nat.or_comm, nat_join (7 * i) _ _ (by rw [pow7]; simp) (by rw [pow7]; exact hq), Nat.add_comm]
theorem next_lt (q c i : Nat) (hq : q < 128 ^ i) : q + c % 128 * 128 ^ i < 128 ^ (i + 1) := by
  have h1 : c % 128 * 128 ^ i ≤ 127 * 128 ^ i := Nat.mul_le_mul_right _ (by omega)
  rw [Nat.pow_succ]
  omega
theorem tup3 {X X' Y Y' Z : Int} (h1 : X = X') (h2 : Y = Y') : Ending.returned (Value.tuple #[Value.int .u64 X, Value.int .i64 Y, Value.int .i64 Z]) = Ending.returned (Value.tuple #[Value.int .u64 X', Value.int .i64 Y', Value.int .i64 Z]) := by rw [h1, h2]

set_option maxRecDepth 100000 in
set_option maxHeartbeats 1000000 in
theorem readUint_in {v : Value} {bs : List Nat} {w : World} (hr : Rd w v bs) (k : Nat) (hk : k ≤ bs.length) :
    Calls Tryd.prog 26 #[v, .int .i64 (k : Int)] w fun e w' => e = .returned (.tuple #[.int .u64 (((uintR bs k).1 : Nat) : Int), .int .i64 (((uintR bs k).2.1 : Nat) : Int), .int .i64 (((uintR bs k).2.2 : Nat) : Int)]) ∧ w' = w := by
  obtain ⟨a, n, cap, rfl⟩ := rd_slice hr
  obtain ⟨hn, hle, hm, hl48⟩ := rd_lens hr
  rw [← hn] at hk
  have HN : Hid (n = bs.length) := hn
  clear hn
  unfold maxLen at hm
  have hk2 : (k : Int) ≤ (n : Int) := by omega
  have hk0 : (0 : Int) ≤ (k : Int) := by omega
  have hd : decide ((k : Int) < 0 ∨ (n : Int) < (k : Int)) = false := by simp; omega
  go_enter Tryd.func26, Tryd.ntmps26
  go_wp2_with fail
  refine (outside_any _ hl48).mono ?_
  rintro e w1 ⟨rfl, rfl⟩
  rw [hd]
  go_wp2
  go_loop [7, 8] (fun x y => ∃ i q : Nat, i ≤ 9 ∧ k + i ≤ n ∧ x = .int .u64 (q : Int) ∧ y = .int .i64 (i : Int) ∧ q < 128 ^ i ∧ ruint 9 (bs.drop k) 0 0 = ruint (9 - i) (bs.drop (k + i)) i q) (fun _ y => 10 - (intOf y).toNat)
  case atStart => exact ⟨0, 0, by omega, by omega, rfl, rfl, by simp, rfl⟩
  case round =>
    obtain ⟨i, q, hi, hki, rfl, rfl, hq, hru⟩ := hrel
    have HQ : Hid (q < 128 ^ i) := hq
    have HR : Hid (ruint 9 (bs.drop k) 0 0 = ruint (9 - i) (bs.drop (k + i)) i q) := hru
    clear hq hru
    by_cases hend : k + i = n
    · have e1 : ((k : Int) + (i : Int) == (n : Int)) = true := by simp; omega
      have hdr : bs.drop (k + i) = [] := by rw [hend, HN.out]; simp
      have HU : Hid (uintR bs k = (0, 0, 10)) := by
        unfold Hid uintR; rw [HR.out, hdr]; cases (9 - i) <;> rfl
      have hend2 : ¬ (k : Int) + (i : Int) < (n : Int) := by omega
      clear hend hdr
      go_wp2
      go_ret3
      rw [HU.out]
      exact ⟨rfl, rfl⟩
    · have e1 : ((k : Int) + (i : Int) == (n : Int)) = false := by simp; omega
      rcases rd_some hr with ⟨_, h0, _⟩ | ⟨b, off, rfl⟩
      · omega
      obtain ⟨hc, hcl⟩ := rd_cell hr (k + i) (by omega)
      have hdr : bs.drop (k + i) = bs.getD (k + i) 0 :: bs.drop (k + i + 1) := by
        rw [List.drop_eq_getElem_cons (by rw [← HN.out]; omega)]
        simp [List.getD, List.getElem?_eq_getElem (show k + i < bs.length by rw [← HN.out]; omega)]
      obtain ⟨c, hcd⟩ : ∃ c, c = bs.getD (k + i) 0 := ⟨_, rfl⟩
      rw [← hcd] at hc hcl hdr
      have HD : Hid (bs.drop (k + i) = c :: bs.drop (k + i + 1)) := hdr
      clear hdr hcd
      have hkn : (k : Int) + (i : Int) < (n : Int) := by omega
      have a7 := and7f c hcl
      have a8 := and80 c hcl
      by_cases hA : i = 9 ∧ 1 < c
      · have HU : Hid (uintR bs k = (0, 0, 13)) := by
          unfold Hid uintR; rw [HR.out, HD.out, hA.1]
          simp [ruint, hA.2]
        have e2 : ((i : Int) == 9) = true := by simp; omega
        have e3 : (1 : Int) < (c : Int) := by omega
        clear hA a7 a8
        go_wp2
        go_ret3
        rw [HU.out]
        exact ⟨rfl, rfl⟩
      · have hA9 : i = 9 → c ≤ 1 := fun h => by
          by_cases hc1 : 1 < c
          · exact absurd ⟨h, hc1⟩ hA
          · omega
        have hv := orshift q c i hi HQ.out hA9
        have hnx := next_lt q c i HQ.out
        obtain ⟨V, hV⟩ : ∃ V, V = q + c % 128 * 128 ^ i := ⟨_, rfl⟩
        rw [← hV] at hv hnx
        have HV : Hid (V = q + c % 128 * 128 ^ i) := hV
        have HX : Hid (V < 128 ^ (i + 1)) := hnx
        have hem : (c : Int) % 128 % 18446744073709551616 = (c : Int) % 128 := by omega
        clear hV hnx
        by_cases hB : 128 ≤ c
        · have hi8 : i ≤ 8 := by
            by_cases h : i = 9
            · have := hA9 h; omega
            · omega
          have e2 : ((i : Int) == 9) = false := by simp; omega
          have e4 : ((c : Int) / 128 * 128 != 0) = true := by simp; omega
          have HN2 : Hid (ruint 9 (bs.drop k) 0 0 = ruint (9 - (i + 1)) (bs.drop (k + (i + 1))) (i + 1) V) := by
            unfold Hid
            rw [HR.out, HD.out, show 9 - i = (9 - (i + 1)) + 1 by omega]
            conv => lhs; unfold ruint
            rw [if_neg hA, if_pos hB, ← HV.out]
            rfl
          clear hA hA9
          go_wp2
          go_round
          case rel => exact ⟨i + 1, V, by omega, by omega, by first | rfl | (rw [hv]), by go_num, HX.out, HN2.out⟩
          case measure => simp [intOf]; omega
        · have e4 : ((c : Int) / 128 * 128 != 0) = false := by simp; omega
          by_cases hC : c = 0 ∧ 0 < i
          · have HU : Hid (uintR bs k = (0, 0, 11)) := by
              unfold Hid uintR
              have : ruint (9 - i) (c :: bs.drop (k + i + 1)) i q = (0, 0, 11) := by
                cases h9 : 9 - i with
                | zero => unfold ruint; rw [if_neg hA, if_neg hB, if_pos hC]
                | succ f => unfold ruint; rw [if_neg hA, if_neg hB, if_pos hC]
              rw [HR.out, HD.out, this]
              rfl
            have e5 : ((c : Int) == 0) = true := by simp; omega
            have e6 : (0 : Int) < (i : Int) := by omega
            have e7 : (c : Int) ≤ 1 := by omega
            clear hA hA9 hC
            go_wp2
            all_goals go_ret3
            all_goals rw [HU.out]
            all_goals exact ⟨rfl, rfl⟩
          · have HU : Hid (uintR bs k = (V, k + i + 1, 0)) := by
              unfold Hid uintR
              have : ruint (9 - i) (c :: bs.drop (k + i + 1)) i q = (V, i + 1, 0) := by
                cases h9 : 9 - i with
                | zero => unfold ruint; rw [if_neg hA, if_neg hB, if_neg hC, HV.out]
                | succ f => unfold ruint; rw [if_neg hA, if_neg hB, if_neg hC, HV.out]
              rw [HR.out, HD.out, this]
              rfl
            have e8 : ((k : Int) + (i : Int) + 1) = ((k + i + 1 : Nat) : Int) := by omega
            have HE8 : Hid (((k : Int) + (i : Int) + 1) = ((k + i + 1 : Nat) : Int)) := e8
            clear hA e8
            by_cases h9 : i = 9
            · have := hA9 h9
              have e2 : ((i : Int) == 9) = true := by simp; omega
              have e7 : (c : Int) ≤ 1 := by omega
              have e5 : ((c : Int) == 0) = false := by simp; omega
              have H9 : Hid (i = 9) := h9
              clear hA9 hC h9
              go_wp2
              all_goals go_ret3
              all_goals rw [HU.out]
              all_goals exact ⟨tup3 (by first | rfl | exact hv) HE8.out, rfl⟩
            · have e2 : ((i : Int) == 9) = false := by simp; omega
              clear hA9
              by_cases hc0 : c = 0
              · have e5 : ((c : Int) == 0) = true := by simp; omega
                have e6 : (i : Int) ≤ 0 := by omega
                have H0 : Hid (c = 0) := hc0
                clear hC hc0
                go_wp2
                all_goals go_ret3
                all_goals rw [HU.out]
                all_goals exact ⟨tup3 (by first | rfl | exact hv) HE8.out, rfl⟩
              · have e5 : ((c : Int) == 0) = false := by simp; omega
                clear hC
                go_wp2
                all_goals go_ret3
                all_goals rw [HU.out]
                all_goals exact ⟨tup3 (by first | rfl | exact hv) HE8.out, rfl⟩

end Go.Proofs.YtledfniedoapiaaDoor

namespace Go.Proofs.YtledfniedoapiaaDoor
open Go.RowKit
set_option linter.unusedVariables false

theorem st1 : uintR [9, 172, 2] 1 = (300, 3, 0) := by decide
theorem st2 : (frameL [7]).length = 13 := by decide
theorem st3 : frameR (frameL [7]) 0 = ([7], 13, 0) := by decide
theorem st4 : uintL 300 = [172, 2] := by decide

theorem rd_new (w : World) (g : Nat) (hg : g = w.heap.size) (bs : List Nat) (vs : List Value) (hv : vs = bv bs) (hb : Bys bs) (hl : bs.length ≤ 1000) (n : Nat) (hn : n = bs.length) :
    Rd (w.alloc (.cells vs.toArray 5)) (.slice (some ⟨g, 0, none⟩) n n) bs := by
  subst hv hn hg
  refine ⟨hb, _, _, rfl, Nat.le_refl _, by unfold maxLen; omega, by omega, .inr ⟨w.heap.size, 0, rfl⟩, .inr ⟨w.heap.size, 0, rfl, fun i hi => ?_⟩⟩
  have := news_new w (bv bs) 5 i (.int .u8 ((bs.getD i 0 : Nat) : Int)) (by simp [bv, List.getElem?_eq_getElem hi])
  have e : (⟨w.heap.size, 0, none⟩ : Addr).add i = ⟨w.heap.size, 0 + i, none⟩ := by unfold Addr.add; split <;> simp_all
  rwa [e] at this

theorem readUint_at {v : Value} {bs : List Nat} {w : World} (hr : Rd w v bs) (z : Int) (k : Nat) (hz : z = (k : Int)) (hk : k ≤ bs.length) {V P E : Nat} (h : uintR bs k = (V, P, E)) :
    Calls Tryd.prog 26 #[v, .int .i64 z] w fun e w' => e = .returned (.tuple #[.int .u64 (V : Int), .int .i64 (P : Int), .int .i64 (E : Int)]) ∧ w' = w := by
  subst hz
  have := readUint_in hr k hk
  rw [h] at this
  exact this
theorem readFrame_at {v : Value} {bs : List Nat} {w : World} (hr : Rd w v bs) (ht : Tab w) (z : Int) (k : Nat) (hz : z = (k : Int)) (hk : k ≤ bs.length) (h47 : bs.length ≤ 140737488355328) {L : List Nat} {P E : Nat} (h : frameR bs k = (L, P, E)) :
    Calls Tryd.prog 24 #[v, .int .i64 z] w fun e w' => ∃ a m c, e = .returned (.tuple #[.slice a m c, .int .i64 (P : Int), .int .i64 (E : Int)]) ∧ Own w' w.heap.size (.slice a m c) m L ∧ Below w.heap.size w w' := by
  subst hz
  have := readFrame_in hr ht k hk h47
  rw [h] at this
  exact this
theorem uint_at (z : Int) (v : Nat) (hz : z = (v : Int)) (hv : v < 18446744073709551616) (w : World) {L : List Nat} (hL : uintL v = L) :
    Calls Tryd.prog 29 #[.int .u64 z] w fun e w' => ∃ a m c, e = .returned (.slice a m c) ∧ Own w' w.heap.size (.slice a m c) m L ∧ Below w.heap.size w w' := by
  subst hz hL
  exact handed (uint_any v hv w)
theorem bys7 : Bys [7] := by intro x hx; simp at hx; omega

set_option maxRecDepth 100000 in
set_option maxHeartbeats 1000000 in
theorem started_any {w : World} (ht : Tab w) :
    Calls Tryd.prog 13 #[] w fun e w' => e = .returned (.bool true) ∧ Below w.heap.size w w' := by
  have b1 := (Below.refl w.heap.size w).alloc (Nat.le_refl _) (.cells #[.int .u8 9, .int .u8 172, .int .u8 2] 5)
  have b2 := b1.alloc b1.size (.cells #[.int .u8 7] 5)
  go_enter Tryd.func13, Tryd.ntmps13
  go_wp2_with fail
  refine (readUint_at (rd_new w _ rfl [9, 172, 2] [.int .u8 9, .int .u8 172, .int .u8 2] rfl (by intro x hx; simp at hx; omega) (by simp) 3 rfl) 1 1 rfl (by simp) st1).mono ?_
  rintro e w1 ⟨rfl, rfl⟩
  go_wp2_with fail
  refine (frame_ok (rd_new (w.alloc (.cells #[.int .u8 9, .int .u8 172, .int .u8 2] 5)) _ (by simp) [7] [.int .u8 7] rfl bys7 (by simp) 1 rfl) (ht.later b2) (by simp)).mono ?_
  rintro e w3 ⟨a3, m3, c3, rfl, own3, hb3⟩
  have hm3 : m3 = 13 := own3.1.trans st2
  subst hm3
  have hb3' := b2.trans (hb3.mono b2.size)
  have r3 : Rd w3 (.slice a3 13 c3) (frameL [7]) := own3.rd (frameL_bys _ bys7 (by simp)) (by omega)
  clear own3 hb3 b1 b2
  go_wp2_with fail
  refine (readFrame_at r3 (ht.later hb3') 0 0 rfl (Nat.zero_le _) (by rw [st2]; omega) st3).mono ?_
  rintro e w4 ⟨a4, m4, c4, rfl, own4, hb4⟩
  have hb4' := hb3'.trans (hb4.mono hb3'.size)
  have r4 := own4.rd bys7 (by rw [own4.1]; simp)
  have hs4 := hb4'.size
  clear own4 hb4 hb3' r3
  go_wp2_with fail
  refine (num_any _ _).mono ?_
  rintro e w5 ⟨rfl, rfl⟩
  go_wp2_with fail
  refine (num_any _ _).mono ?_
  rintro e w6 ⟨rfl, rfl⟩
  go_wp2_with fail
  have hb7 := hb4'.alloc hs4 (.cells #[.int .u8 7] 5)
  refine (same_any (r4.later ((Below.refl _ _).alloc (Nat.le_refl _) _)) (rd_new w6 _ rfl [7] [.int .u8 7] rfl bys7 (by simp) 1 rfl)).mono ?_
  rintro e w7 ⟨rfl, rfl⟩
  rw [show decide ([7] = [7]) = true from rfl]
  go_wp2_with fail
  refine (num_any _ _).mono ?_
  rintro e w8 ⟨rfl, rfl⟩
  go_wp2_with fail
  refine (uint_at 300 300 rfl (by omega) _ st4).mono ?_
  rintro e w9 ⟨a9, m9, c9, rfl, own9, hb9⟩
  have hb9' := hb7.trans (hb9.mono hb7.size)
  have b172 : Bys [172, 2] := by intro x hx; simp at hx; omega
  have r9 := own9.rd b172 (by rw [own9.1]; simp)
  have hs9 := hb9'.size
  clear own9 hb9 r4 hb7
  go_wp2_with fail
  refine (same_any (r9.later ((Below.refl _ _).alloc (Nat.le_refl _) _)) (rd_new w9 _ rfl [172, 2] [.int .u8 172, .int .u8 2] rfl b172 (by simp) 2 rfl)).mono ?_
  rintro e w10 ⟨rfl, rfl⟩
  rw [show decide ([172, 2] = [172, 2]) = true from rfl]
  have hb10 := hb9'.alloc hs9 (.cells #[.int .u8 172, .int .u8 2] 5)
  go_wp2
  go_ret
  exact ⟨rfl, hb10⟩

end Go.Proofs.YtledfniedoapiaaDoor
