import Derived.Test.YtncbiohmogmcpaaDoorRefFrame
namespace Go.Proofs.YtncbiohmogmcpaaDoor
open Go.RowKit
set_option linter.unusedVariables false

theorem sealed_sl {b off off' n n' c c' : Nat} {bs : List Nat} {w : World} (hb : Rd w (.slice (some ⟨b, off', none⟩) n' c') bs) (h1 : off = off') (h2 : n = n') (h3 : c = c') :
    Calls Tryd.prog 73 #[.slice (some ⟨b, off, none⟩) n c] w fun e w' => ∃ a m c, e = .returned (.slice a m c) ∧ Own w' w.heap.size (.slice a m c) m (le4 (sumL bs)) ∧ Below w.heap.size w w' := by
  subst h1 h2 h3; exact sealed_any hb
theorem refSame_sl {a : Value} {b off off' n n' c c' : Nat} {xs ys : List Nat} {w : World} (ha : Rd w a xs) (hb : Rd w (.slice (some ⟨b, off', none⟩) n' c') ys) (h1 : off = off') (h2 : n = n') (h3 : c = c') :
    Calls Tryd.prog 75 #[a, .slice (some ⟨b, off, none⟩) n c] w fun e w' => e = .returned (.bool (decide (xs = ys))) ∧ w' = w := by
  subst h1 h2 h3; exact refSame_any ha hb
theorem number_at {b off n cap : Nat} {bs : List Nat} {w : World} (hr : Rd w (.slice (some ⟨b, off, none⟩) n cap) bs) (k q : Nat) (hq : q ≤ 8) (hk : k + q ≤ n) {N : Nat} (h : num8 ((bs.drop k).take q) = N) (z : Int) (hz : z = (q : Int)) :
    Calls Tryd.prog 76 #[.slice (some ⟨b, off, none⟩) n cap, .int .i64 (k : Int), .int .i64 z] w fun e w' => e = .returned (.int .u64 (N : Int)) ∧ w' = w := by
  subst h hz; exact number_any hr k q hq hk

theorem le4_rdle (S a b c d : Nat) (hS : S < 4294967296) (ha : a < 256) (hb : b < 256) (hc : c < 256) (hd : d < 256) : le4 S = [a, b, c, d] ↔ rdle a b c d = S := by
  unfold le4 rdle
  simp only [List.cons.injEq, and_true]
  constructor
  · rintro ⟨h1, h2, h3, h4⟩; omega
  · intro h; omega
theorem four (l : List Nat) (h : 4 ≤ l.length) : l.take 4 = [l.getD 0 0, l.getD 1 0, l.getD 2 0, l.getD 3 0] := by
  match l, h with
  | a :: b :: c :: d :: r, _ => simp
theorem num8_four (a b c d : Nat) : num8 [a, b, c, d] = rdle d c b a := by
  simp [num8, rdle]; omega

theorem i64_keep (z : Int) (h0 : -9223372036854775808 ≤ z) (h1 : z < 9223372036854775808) : IntKind.i64.wrap z = z := by
  simp only [IntKind.wrap, IntKind.bits, IntKind.signed]
  simp
  omega
/-- What a frame's head says, as the document reads it. -/
theorem headR_ref (H : List Nat) (h : 8 ≤ H.length) (hb : Bys H) : headR H = if le4 (sumL (H.take 4)) = (H.drop 4).take 4 then (if 1048576 < num8 (H.take 4) then (0, 13) else (num8 (H.take 4), 0)) else (0, 12) := by
  unfold headR
  rw [if_neg (by omega)]
  have e1 : (H.drop 4).take 4 = [H.getD 4 0, H.getD 5 0, H.getD 6 0, H.getD 7 0] := by
    rw [four (H.drop 4) (by simp; omega)]; simp
  have e2 := four H (by omega)
  have hiff := le4_rdle (sumL (H.take 4)) (H.getD 4 0) (H.getD 5 0) (H.getD 6 0) (H.getD 7 0) (sumL_lt _) (hb.get 4) (hb.get 5) (hb.get 6) (hb.get 7)
  rw [← e1] at hiff
  have e3 : num8 (H.take 4) = rdle (H.getD 3 0) (H.getD 2 0) (H.getD 1 0) (H.getD 0 0) := by rw [e2, num8_four]
  by_cases hs : le4 (sumL (H.take 4)) = (H.drop 4).take 4
  · rw [if_pos hs, if_neg (by have := hiff.1 hs; omega), e3]
  · rw [if_neg hs, if_pos (fun h => hs (hiff.2 h))]

set_option maxRecDepth 100000 in
theorem refReadFrame_out {v : Value} {bs : List Nat} {w : World} (hr : Rd w v bs) (at_ : Int) (h : at_ < 0 ∨ (bs.length : Int) < at_) :
    Calls Tryd.prog 45 #[v, .int .i64 at_] w fun e w' => e = .returned (.tuple #[.slice none 0 0, .int .i64 0, .int .i64 1]) ∧ w' = w := by
  obtain ⟨a, n, cap, rfl⟩ := rd_slice hr
  obtain ⟨hn, hle, hm, hl48⟩ := rd_lens hr
  rw [← hn] at h
  clear hn hr
  have hd : decide (at_ < 0 ∨ (n : Int) < at_) = true := by simpa using h
  clear h
  go_enter Tryd.func45, Tryd.ntmps45
  go_wp2_with fail
  refine (refOutside_any at_ hl48).mono ?_
  rintro e w1 ⟨rfl, rfl⟩
  rw [hd]
  go_wp2
  go_ret3
  exact ⟨rfl, rfl⟩

set_option maxRecDepth 100000 in
set_option maxHeartbeats 4000000 in
theorem refReadFrame_in {v : Value} {bs : List Nat} {w : World} (hr : Rd w v bs) (k : Nat) (hk : k ≤ bs.length) (h47 : bs.length ≤ 140737488355000) :
    Calls Tryd.prog 45 #[v, .int .i64 (k : Int)] w fun e w' => ∃ a m c, e = .returned (.tuple #[.slice a m c, .int .i64 (((frameR bs k).2.1 : Nat) : Int), .int .i64 (((frameR bs k).2.2 : Nat) : Int)]) ∧ Own w' w.heap.size (.slice a m c) m (frameR bs k).1 ∧ Below w.heap.size w w' := by
  obtain ⟨a, n, cap, rfl⟩ := rd_slice hr
  obtain ⟨hn, hle, hm, hl48⟩ := rd_lens hr
  rw [← hn] at hk h47
  have HN : Hid (n = bs.length) := hn
  have hHl : (bs.drop k).length = n - k := by rw [List.length_drop, ← hn]
  clear hn
  unfold maxLen at hm
  have hk0 : (0 : Int) ≤ (k : Int) := by omega
  have hd : decide ((k : Int) < 0 ∨ (n : Int) < (k : Int)) = false := by simp; omega
  obtain ⟨R, hR⟩ : ∃ R, R = frameR bs k := ⟨_, rfl⟩
  rw [← hR]
  have HR : Hid (R = frameR bs k) := hR
  clear hR
  by_cases hs : n < k + 8
  · have e1 : (n : Int) - (k : Int) < 8 := by omega
    have HRR : Hid (R = ([], 0, 10)) := by
      unfold Hid
      rw [HR.out]
      unfold frameR
      have : headR (bs.drop k) = (0, 10) := by unfold headR; rw [if_pos (by omega)]
      rw [this]; rfl
    clear hs hHl
    go_enter Tryd.func45, Tryd.ntmps45
    go_wp2_with fail
    refine (refOutside_any _ hl48).mono ?_
    rintro e w1 ⟨rfl, rfl⟩
    rw [hd]
    go_wp2
    go_ret3
    rw [HRR.out]
    exact ⟨_, _, _, rfl, ⟨rfl, World.ownsRow_nil _ _ _ _⟩, Below.refl _ _⟩
  · have e1 : (8 : Int) ≤ (n : Int) - (k : Int) := by omega
    rcases rd_some hr with ⟨_, h0, _⟩ | ⟨b, off, rfl⟩
    · omega
    have hHead := headR_ref (bs.drop k) (by omega) (fun x hx => hr.1 x (List.mem_of_mem_drop hx))
    have r1 := hr.sub k (k + 4) (by omega) (by omega) (off' := off + k) (n' := 4) (cap' := cap - k) rfl (by omega) rfl
    have r2 := hr.sub (k + 4) (k + 8) (by omega) (by omega) (off' := off + (k + 4)) (n' := 4) (cap' := cap - (k + 4)) rfl (by omega) rfl
    have ex1 : (bs.take (k + 4)).drop k = (bs.drop k).take 4 := by rw [List.drop_take]; congr 1; omega
    have ex2 : (bs.take (k + 8)).drop (k + 4) = ((bs.drop k).drop 4).take 4 := by rw [List.drop_take, List.drop_drop]; congr 1; omega
    rw [ex1] at r1
    rw [ex2] at r2
    obtain ⟨X, hX⟩ : ∃ X, X = (bs.drop k).take 4 := ⟨_, rfl⟩
    obtain ⟨Y, hY⟩ : ∃ Y, Y = ((bs.drop k).drop 4).take 4 := ⟨_, rfl⟩
    rw [← hX, ← hY] at hHead
    rw [← hX] at r1
    rw [← hY] at r2
    obtain ⟨N, hNN⟩ : ∃ N, N = num8 X := ⟨_, rfl⟩
    have HNN : Hid (num8 ((bs.drop k).take 4) = N) := by unfold Hid; rw [← hX, hNN]
    rw [← hNN] at hHead
    have HH : Hid (headR (bs.drop k) = if le4 (sumL X) = Y then (if 1048576 < N then (0, 13) else (N, 0)) else (0, 12)) := hHead
    have HR1 : Hid (Rd w (.slice (some ⟨b, off + k, none⟩) 4 (cap - k)) X) := r1
    have HR2 : Hid (Rd w (.slice (some ⟨b, off + (k + 4), none⟩) 4 (cap - (k + 4))) Y) := r2
    have HSB : Hid (∀ l : List Nat, Bys (le4 (sumL l))) := fun l => le4_bys _ (sumL_lt l)
    have hN : N < 4294967296 := by
      have h1 := num8_lt X (by rw [hX]; exact fun x hx => hr.1 x (List.mem_of_mem_drop (List.mem_of_mem_take hx)))
      have h2 : X.length ≤ 4 := by rw [hX, List.length_take]; omega
      have h3 : 256 ^ X.length ≤ 256 ^ 4 := Nat.pow_le_pow_right (by omega) h2
      have h4 : (256 : Nat) ^ 4 = 4294967296 := by decide
      omega
    clear hHead r1 r2 ex1 ex2 hX hY hNN hHl
    have k4c : (k : Int) + 4 ≤ (cap : Int) := by omega
    have k8c : (k : Int) + 8 ≤ (cap : Int) := by omega
    have k40 : (0 : Int) ≤ (k : Int) + 4 := by omega
    have k44 : (k : Int) ≤ (k : Int) + 4 := by omega
    have k48 : (k : Int) + 4 ≤ (k : Int) + 8 := by omega
    have kne : ¬ cap = k := by omega
    have kne4 : ¬ cap = k + 4 := by omega
    have wr4 : IntKind.i64.wrap ((k : Int) + 4) = (k : Int) + 4 := i64_keep _ (by omega) (by omega)
    have wr8 : IntKind.i64.wrap ((k : Int) + 8) = (k : Int) + 8 := i64_keep _ (by omega) (by omega)
    have BD : Below w.heap.size w w.drew := (Below.refl _ _).drew
    go_enter Tryd.func45, Tryd.ntmps45
    go_wp2_with fail
    refine (refOutside_any _ hl48).mono ?_
    rintro e w1 ⟨rfl, rfl⟩
    rw [hd]
    go_wp2_with fail
    go_region_held3 (fun wx => Below w1.heap.size w1 wx) (first | exact BD | exact hbA | assumption) (first | (go_at_call 73; refine (sealed_sl (HR1.out.later BD) (by first | rfl | omega | (simp; omega)) (by first | rfl | omega | (simp; omega)) (by first | rfl | omega | (simp; omega))).mono ?_; rintro e wa ⟨aa, ma, ca, rfl, owna, hba⟩; have ra := owna.rd (HSB.out _) (by rw [owna.1]; simp [le4]); have hbA : Below w1.heap.size w1 wa := BD.trans (hba.mono (Nat.le_refl _)); clear owna hba) | (go_at_call 75; refine (refSame_sl ra (HR2.out.later hbA) (by first | rfl | omega | (simp; omega)) (by first | rfl | omega | (simp; omega)) (by first | rfl | omega | (simp; omega))).mono ?_; rintro e wz ⟨rfl, rfl⟩))
    have hrz := hr.later hbA
    by_cases hsum : le4 (sumL X) = Y
    · have hdt : decide (le4 (sumL X) = Y) = true := by simp [hsum]
      have HH2 : Hid (headR (bs.drop k) = if 1048576 < N then (0, 13) else (N, 0)) := by unfold Hid; rw [HH.out, if_pos hsum]
      rw [hdt]
      have hNw : IntKind.i64.wrap (N : Int) = (N : Int) := i64_keep _ (by omega) (by omega)
      clear hsum hdt HH
      go_wp2_with fail
      refine (number_at hrz k 4 (by omega) (by omega) HNN.out _ rfl).mono ?_
      rintro e w2 ⟨rfl, rfl⟩
      by_cases hbig : 1048576 < N
      · have eb : (1048576 : Int) < (N : Int) := by omega
        have HRR : Hid (R = ([], 0, 13)) := by
          unfold Hid
          rw [HR.out]
          unfold frameR
          rw [HH2.out, if_pos hbig]; rfl
        go_wp2
        go_ret3
        rw [HRR.out]
        exact ⟨_, _, _, rfl, ⟨rfl, World.ownsRow_nil _ _ _ _⟩, hbA⟩
      · have eb : (N : Int) ≤ 1048576 := by omega
        have HH3 : Hid (headR (bs.drop k) = (N, 0)) := by unfold Hid; rw [HH2.out, if_neg hbig]
        by_cases htorn : n < k + 8 + N + 4
        · have et : (n : Int) - (k : Int) - 8 < (N : Int) + 4 := by omega
          have HRR : Hid (R = ([], 0, 10)) := by
            unfold Hid
            rw [HR.out]
            unfold frameR
            rw [HH3.out, if_neg (by simp), if_pos (by rw [← HN.out]; exact htorn)]
          clear hbig htorn
          go_wp2
          go_ret3
          rw [HRR.out]
          exact ⟨_, _, _, rfl, ⟨rfl, World.ownsRow_nil _ _ _ _⟩, hbA⟩
        · have et : (N : Int) + 4 ≤ (n : Int) - (k : Int) - 8 := by omega
          have HS1 : Hid ((k : Int) + 8 = ((k + 8 : Nat) : Int)) := by unfold Hid; omega
          have HS2 : Hid ((k : Int) + 8 + (N : Int) = ((k + 8 + N : Nat) : Int)) := by unfold Hid; omega
          have HB1 : Hid (k + 8 ≤ k + 8 + N ∧ k + 8 + N ≤ n ∧ n ≤ 140737488355328) := by unfold Hid; omega
          have exb : (bs.take (k + 8 + N)).drop (k + 8) = (bs.drop (k + 8)).take N := by rw [List.drop_take]; congr 1; omega
          obtain ⟨L, hL⟩ : ∃ L, L = (bs.drop (k + 8)).take N := ⟨_, rfl⟩
          have HXB : Hid ((bs.take (k + 8 + N)).drop (k + 8) = L) := by unfold Hid; rw [exb, hL]
          have HLB : Hid (Bys L ∧ L.length ≤ 1048576) := by unfold Hid; rw [hL]; exact ⟨fun x hx => hr.1 x (List.mem_of_mem_drop (List.mem_of_mem_take hx)), by rw [List.length_take]; omega⟩
          have r4 := hr.sub (k + 8 + N) (k + 12 + N) (by omega) (by omega) (off' := off + (k + 8 + N)) (n' := 4) (cap' := cap - (k + 8 + N)) rfl (by omega) rfl
          have ex4 : (bs.take (k + 12 + N)).drop (k + 8 + N) = (bs.drop (k + 8 + N)).take 4 := by rw [List.drop_take]; congr 1; omega
          rw [ex4] at r4
          obtain ⟨Z, hZ⟩ : ∃ Z, Z = (bs.drop (k + 8 + N)).take 4 := ⟨_, rfl⟩
          rw [← hZ] at r4
          have HR4 : Hid (Rd w1 (.slice (some ⟨b, off + (k + 8 + N), none⟩) 4 (cap - (k + 8 + N))) Z) := r4
          have hZ4 : Z = [(bs.drop (k + 8 + N)).getD 0 0, (bs.drop (k + 8 + N)).getD 1 0, (bs.drop (k + 8 + N)).getD 2 0, (bs.drop (k + 8 + N)).getD 3 0] := by
            rw [hZ]; exact four _ (by rw [List.length_drop, ← HN.out]; omega)
          have hbD : Bys (bs.drop (k + 8 + N)) := fun x hx => hr.1 x (List.mem_of_mem_drop hx)
          have hiff := le4_rdle (sumL L) _ _ _ _ (sumL_lt L) (hbD.get 0) (hbD.get 1) (hbD.get 2) (hbD.get 3)
          rw [← hZ4] at hiff
          have HFR : Hid (R = if le4 (sumL L) = Z then (L, k + 12 + N, 0) else ([], 0, 12)) := by
            unfold Hid
            rw [HR.out]
            unfold frameR
            rw [HH3.out, if_neg (by simp), if_neg (by rw [← HN.out]; exact htorn)]
            simp only
            rw [← hL]
            by_cases hz : le4 (sumL L) = Z
            · rw [if_pos hz, if_neg (by have := hiff.1 hz; omega)]
            · rw [if_neg hz, if_pos (fun h => hz (hiff.2 h))]
          have HS4 : Hid ((k : Int) + 12 + (N : Int) = ((k + 12 + N : Nat) : Int)) := by unfold Hid; omega
          have wr8N : IntKind.i64.wrap ((k : Int) + 8 + (N : Int)) = (k : Int) + 8 + (N : Int) := i64_keep _ (by omega) (by omega)
          have wr12 : IntKind.i64.wrap ((k : Int) + 12) = (k : Int) + 12 := i64_keep _ (by omega) (by omega)
          have wr12N : IntKind.i64.wrap ((k : Int) + 12 + (N : Int)) = (k : Int) + 12 + (N : Int) := i64_keep _ (by omega) (by omega)
          have q1 : (0 : Int) ≤ (k : Int) + 8 + (N : Int) := by omega
          have q2 : (k : Int) + 8 + (N : Int) ≤ (k : Int) + 12 + (N : Int) := by omega
          have q3 : (k : Int) + 12 + (N : Int) ≤ (cap : Int) := by omega
          clear hbig htorn exb hL r4 ex4 hZ hZ4 hbD hiff HH2 HH3 hr
          go_wp2_with fail
          refine (refPart_at hrz _ _ (k + 8) (k + 8 + N) HS1.out HS2.out HB1.out.1 HB1.out.2.1 HB1.out.2.2).mono ?_
          rintro e w3 ⟨a3, m3, c3, rfl, own3, hb3⟩
          rw [HXB.out] at own3
          have r3 := own3.rd HLB.out.1 (by rw [own3.1]; have := HLB.out.2; omega)
          have B3 := hbA.trans (hb3.mono hbA.size)
          have own33 := own3.mono hbA.size
          have BD3 : Below w3.heap.size w3 w3.drew := (Below.refl _ _).drew
          clear hb3 own3 hrz
          go_wp2_with fail
          go_region_held3 (fun wx => Below w3.heap.size w3 wx) (first | exact BD3 | exact hbB | assumption) (first | (go_at_call 73; refine (sealed_any (r3.later BD3)).mono ?_; rintro e wa ⟨ab, mb, cb, rfl, ownb, hbb⟩; have rb := ownb.rd (HSB.out _) (by rw [ownb.1]; simp [le4]); have hbB : Below w3.heap.size w3 wa := BD3.trans (hbb.mono (Nat.le_refl _)); clear ownb hbb) | (go_at_call 75; refine (refSame_sl rb (HR4.out.later (B3.trans (hbB.mono B3.size))) (by first | rfl | omega | (simp; omega)) (by first | rfl | omega | (simp; omega)) (by first | rfl | omega | (simp; omega))).mono ?_; rintro e wz ⟨rfl, rfl⟩))
          have B4 := B3.trans (hbB.mono B3.size)
          have own4 := own33.later hbB
          by_cases hz : le4 (sumL L) = Z
          · have hdt : decide (le4 (sumL L) = Z) = true := by simp [hz]
            have HRR : Hid (R = (L, k + 12 + N, 0)) := by unfold Hid; rw [HFR.out, if_pos hz]
            rw [hdt]
            clear hz hdt
            go_wp2
            go_ret3
            rw [HRR.out]
            refine ⟨a3, m3, c3, ?_, own4, B4⟩
            exact congrArg (fun z : Int => Ending.returned (Value.tuple #[Value.slice a3 m3 c3, Value.int .i64 z, Value.int .i64 0])) HS4.out
          · have hdt : decide (le4 (sumL L) = Z) = false := by simp [hz]
            have HRR : Hid (R = ([], 0, 12)) := by unfold Hid; rw [HFR.out, if_neg hz]
            rw [hdt]
            clear hz hdt
            go_wp2
            go_ret3
            rw [HRR.out]
            exact ⟨_, _, _, rfl, ⟨rfl, World.ownsRow_nil _ _ _ _⟩, B4⟩
    · have hdt : decide (le4 (sumL X) = Y) = false := by simp [hsum]
      have HRR : Hid (R = ([], 0, 12)) := by
        unfold Hid
        rw [HR.out]
        unfold frameR
        rw [HH.out, if_neg hsum]; rfl
      rw [hdt]
      clear hsum hdt
      go_wp2
      go_ret3
      rw [HRR.out]
      exact ⟨_, _, _, rfl, ⟨rfl, World.ownsRow_nil _ _ _ _⟩, hbA⟩

end Go.Proofs.YtncbiohmogmcpaaDoor
