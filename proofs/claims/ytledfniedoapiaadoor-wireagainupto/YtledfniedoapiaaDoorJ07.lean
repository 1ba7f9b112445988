import Derived.Test.YtledfniedoapiaaDoorJ06
import Derived.Test.YtledfniedoapiaaDoorJ04
import Derived.Test.YtledfniedoapiaaDoorJ02
import Derived.Test.YtledfniedoapiaaDoorJ05
import Derived.Deep.RegionHeld3
namespace Go.Proofs.YtledfniedoapiaaDoor
open Go.RowKit
set_option linter.unusedVariables false

theorem sealed_sl {b off off' n n' c c' : Nat} {bs : List Nat} {w : World} (hb : Rd w (.slice (some ⟨b, off', none⟩) n' c') bs) (h1 : off = off') (h2 : n = n') (h3 : c = c') :
    Calls Tryd.prog 64 #[.slice (some ⟨b, off, none⟩) n c] w fun e w' => ∃ a m c, e = .returned (.slice a m c) ∧ Own w' w.heap.size (.slice a m c) m (le4 (sumL bs)) ∧ Below w.heap.size w w' := by
  subst h1 h2 h3; exact sealed_any hb
theorem refSame_sl {a : Value} {b off off' n n' c c' : Nat} {xs ys : List Nat} {w : World} (ha : Rd w a xs) (hb : Rd w (.slice (some ⟨b, off', none⟩) n' c') ys) (h1 : off = off') (h2 : n = n') (h3 : c = c') :
    Calls Tryd.prog 66 #[a, .slice (some ⟨b, off, none⟩) n c] w fun e w' => e = .returned (.bool (decide (xs = ys))) ∧ w' = w := by
  subst h1 h2 h3; exact refSame_any ha hb
theorem number_at {b off n cap : Nat} {bs : List Nat} {w : World} (hr : Rd w (.slice (some ⟨b, off, none⟩) n cap) bs) (k q : Nat) (hq : q ≤ 8) (hk : k + q ≤ n) {N : Nat} (h : num8 ((bs.drop k).take q) = N) (z : Int) (hz : z = (q : Int)) :
    Calls Tryd.prog 67 #[.slice (some ⟨b, off, none⟩) n cap, .int .i64 (k : Int), .int .i64 z] w fun e w' => e = .returned (.int .u64 (N : Int)) ∧ w' = w := by
  subst h hz; exact number_any hr k q hq hk

theorem le4_rdle (S a b c d : Nat) (hS : S < 4294967296) (ha : a < 256) (hb : b < 256) (hc : c < 256) (hd : d < 256) : le4 S = [a, b, c, d] ↔ rdle a b c d = S := by
  unfold le4 rdle
  simp only [List.cons.injEq, and_true]
  constructor
  · rintro ⟨h1, h2, h3, h4⟩; omega
  · intro h; omega
theorem four (l : List Nat) (h : 4 ≤ l.length) : l.take 4 = [l.getD 0 0, l.getD 1 0, l.getD 2 0, l.getD 3 0] := by
  match l, h with
  | a :: b :: c :: d :: r, _ => simp
theorem num8_four (a b c d : Nat) : num8 [a, b, c, d] = rdle d c b a := by
  simp [num8, rdle]; omega

theorem i64_keep (z : Int) (h0 : -9223372036854775808 ≤ z) (h1 : z < 9223372036854775808) : IntKind.i64.wrap z = z := by
  simp only [IntKind.wrap, IntKind.bits, IntKind.signed]
  simp
  omega
/-- What a frame's head says, as the document reads it. -/
theorem headR_ref (H : List Nat) (h : 8 ≤ H.length) (hb : Bys H) : headR H = if le4 (sumL (H.take 4)) = (H.drop 4).take 4 then (if 1048576 < num8 (H.take 4) then (0, 13) else (num8 (H.take 4), 0)) else (0, 12) := by
  unfold headR
  rw [if_neg (by omega)]
  have e1 : (H.drop 4).take 4 = [H.getD 4 0, H.getD 5 0, H.getD 6 0, H.getD 7 0] := by
    rw [four (H.drop 4) (by simp; omega)]; simp
  have e2 := four H (by omega)
  have hiff := le4_rdle (sumL (H.take 4)) (H.getD 4 0) (H.getD 5 0) (H.getD 6 0) (H.getD 7 0) (sumL_lt _) (hb.get 4) (hb.get 5) (hb.get 6) (hb.get 7)
  rw [← e1] at hiff
  have e3 : num8 (H.take 4) = rdle (H.getD 3 0) (H.getD 2 0) (H.getD 1 0) (H.getD 0 0) := by rw [e2, num8_four]
  by_cases hs : le4 (sumL (H.take 4)) = (H.drop 4).take 4
  · rw [if_pos hs, if_neg (by have := hiff.1 hs; omega), e3]
  · rw [if_neg hs, if_pos (fun h => hs (hiff.2 h))]

set_option maxRecDepth 100000 in
theorem refReadFrame_out {v : Value} {bs : List Nat} {w : World} (hr : Rd w v bs) (at_ : Int) (h : at_ < 0 ∨ (bs.length : Int) < at_) :
    Calls Tryd.prog 41 #[v, .int .i64 at_] w fun e w' => e = .returned (.tuple #[.slice none 0 0, .int .i64 0, .int .i64 1]) ∧ w' = w := by
  obtain ⟨a, n, cap, rfl⟩ := rd_slice hr
  obtain ⟨hn, hle, hm, hl48⟩ := rd_lens hr
  rw [← hn] at h
  clear hn hr
  have hd : decide (at_ < 0 ∨ (n : Int) < at_) = true := by simpa using h
  clear h
  go_enter Tryd.func41, Tryd.ntmps41
  go_wp2_with fail
  refine (refOutside_any at_ hl48).mono ?_
  rintro e w1 ⟨rfl, rfl⟩
  rw [hd]
  go_wp2
  go_ret3
  exact ⟨rfl, rfl⟩

set_option maxRecDepth 100000 in
set_option maxHeartbeats 4000000 in
theorem refReadFrame_in {v : Value} {bs : List Nat} {w : World} (hr : Rd w v bs) (k : Nat) (hk : k ≤ bs.length) (h47 : bs.length ≤ 140737488355000) :
    Calls Tryd.prog 41 #[v, .int .i64 (k : Int)] w fun e w' => ∃ a m c, e = .returned (.tuple #[.slice a m c, .int .i64 (((frameR bs k).2.1 : Nat) : Int), .int .i64 (((frameR bs k).2.2 : Nat) : Int)]) ∧ Own w' w.heap.size (.slice a m c) m (frameR bs k).1 ∧ Below w.heap.size w w' := by
  obtain ⟨a, n, cap, rfl⟩ := rd_slice hr
  obtain ⟨hn, hle, hm, hl48⟩ := rd_lens hr
  rw [← hn] at hk h47
  have HN : Hid (n = bs.length) := hn
  have hHl : (bs.drop k).length = n - k := by rw [List.length_drop, ← hn]
  clear hn
  unfold maxLen at hm
  have hk0 : (0 : Int) ≤ (k : Int) := by omega
  have hd : decide ((k : Int) < 0 ∨ (n : Int) < (k : Int)) = false := by simp; omega
  obtain ⟨R, hR⟩ : ∃ R, R = frameR bs k := ⟨_, rfl⟩
  rw [← hR]
  have HR : Hid (R = frameR bs k) := hR
  clear hR
  by_cases hs : n < k + 8
  · have e1 : (n : Int) - (k : Int) < 8 := by omega
    have HRR : Hid (R = ([], 0, 10)) := by
      unfold Hid
      rw [HR.out]
      unfold frameR
      have : headR (bs.drop k) = (0, 10) := by unfold headR; rw [if_pos (by omega)]
      rw [this]; rfl
    clear hs hHl
    go_enter Tryd.func41, Tryd.ntmps41
    go_wp2_with fail
    refine (refOutside_any _ hl48).mono ?_
    rintro e w1 ⟨rfl, rfl⟩
    rw [hd]
    go_wp2
    go_ret3
    rw [HRR.out]
    exact ⟨_, _, _, rfl, ⟨rfl, World.ownsRow_nil _ _ _ _⟩, Below.refl _ _⟩
  · have e1 : (8 : Int) ≤ (n : Int) - (k : Int) := by omega
    rcases rd_some hr with ⟨_, h0, _⟩ | ⟨b, off, rfl⟩
    · omega
    have hHead := headR_ref (bs.drop k) (by omega) (fun x hx => hr.1 x (List.mem_of_mem_drop hx))
    have r1 := hr.sub k (k + 4) (by omega) (by omega) (off' := off + k) (n' := 4) (cap' := cap - k) rfl (by omega) rfl
    have r2 := hr.sub (k + 4) (k + 8) (by omega) (by omega) (off' := off + (k + 4)) (n' := 4) (cap' := cap - (k + 4)) rfl (by omega) rfl
    have ex1 : (bs.take (k + 4)).drop k = (bs.drop k).take 4 := by rw [List.drop_take]; congr 1; omega
    have ex2 : (bs.take (k + 8)).drop (k + 4) = ((bs.drop k).drop 4).take 4 := by rw [List.drop_take, List.drop_drop]; congr 1; omega
    rw [ex1] at r1
    rw [ex2] at r2
    obtain ⟨X, hX⟩ : ∃ X, X = (bs.drop k).take 4 := ⟨_, rfl⟩
    obtain ⟨Y, hY⟩ : ∃ Y, Y = ((bs.drop k).drop 4).take 4 := ⟨_, rfl⟩
    rw [← hX, ← hY] at hHead
    rw [← hX] at r1
    rw [← hY] at r2
    obtain ⟨N, hNN⟩ : ∃ N, N = num8 X := ⟨_, rfl⟩
    have HNN : Hid (num8 ((bs.drop k).take 4) = N) := by unfold Hid; rw [← hX, hNN]
    rw [← hNN] at hHead
    have HH : Hid (headR (bs.drop k) = if le4 (sumL X) = Y then (if 1048576 < N then (0, 13) else (N, 0)) else (0, 12)) := hHead
    have HR1 : Hid (Rd w (.slice (some ⟨b, off + k, none⟩) 4 (cap - k)) X) := r1
    have HR2 : Hid (Rd w (.slice (some ⟨b, off + (k + 4), none⟩) 4 (cap - (k + 4))) Y) := r2
    have HSB : Hid (∀ l : List Nat, Bys (le4 (sumL l))) := fun l => le4_bys _ (sumL_lt l)
    have hN : N < 4294967296 := by
      have h1 := num8_lt X (by rw [hX]; exact fun x hx => hr.1 x (List.mem_of_mem_drop (List.mem_of_mem_take hx)))
      have h2 : X.length ≤ 4 := by rw [hX, List.length_take]; omega
      have h3 : 256 ^ X.length ≤ 256 ^ 4 := Nat.pow_le_pow_right (by omega) h2
      have h4 : (256 : Nat) ^ 4 = 4294967296 := by decide
      omega
    clear hHead r1 r2 ex1 ex2 hX hY hNN hHl
    have k4c : (k : Int) + 4 ≤ (cap : Int) := by omega
    have k8c : (k : Int) + 8 ≤ (cap : Int) := by omega
    have k40 : (0 : Int) ≤ (k : Int) + 4 := by omega
    have k44 : (k : Int) ≤ (k : Int) + 4 := by omega
    have k48 : (k : Int) + 4 ≤ (k : Int) + 8 := by omega
    have kne : ¬ cap = k := by omega
    have kne4 : ¬ cap = k + 4 := by omega
    have wr4 : IntKind.i64.wrap ((k : Int) + 4) = (k : Int) + 4 := i64_keep _ (by omega) (by omega)
    have wr8 : IntKind.i64.wrap ((k : Int) + 8) = (k : Int) + 8 := i64_keep _ (by omega) (by omega)
    have BD : Below w.heap.size w w.drew := (Below.refl _ _).drew
    go_enter Tryd.func41, Tryd.ntmps41
    go_wp2_with fail
    refine (refOutside_any _ hl48).mono ?_
    rintro e w1 ⟨rfl, rfl⟩
    rw [hd]
    go_wp2_with fail
    go_region_held3 (fun wx => Below w1.heap.size w1 wx) (first | exact BD | exact hbA | assumption) (first | (go_at_call 64; refine (sealed_sl (HR1.out.later BD) (by first | rfl | omega | (simp; omega)) (by first | rfl | omega | (simp; omega)) (by first | rfl | omega | (simp; omega))).mono ?_; rintro e wa ⟨aa, ma, ca, rfl, owna, hba⟩; have ra := owna.rd (HSB.out _) (by rw [owna.1]; simp [le4]); have hbA : Below w1.heap.size w1 wa := BD.trans (hba.mono (Nat.le_refl _)); clear owna hba) | (go_at_call 66; refine (refSame_sl ra (HR2.out.later hbA) (by first | rfl | omega | (simp; omega)) (by first | rfl | omega | (simp; omega)) (by first | rfl | omega | (simp; omega))).mono ?_; rintro e wz ⟨rfl, rfl⟩))
    have hrz := hr.later hbA
    by_cases hsum : le4 (sumL X) = Y
    · have hdt : decide (le4 (sumL X) = Y) = true := by simp [hsum]
      have HH2 : Hid (headR (bs.drop k) = if 1048576 < N then (0, 13) else (N, 0)) := by unfold Hid; rw [HH.out, if_pos hsum]
      rw [hdt]
      have hNw : IntKind.i64.wrap (N : Int) = (N : Int) := i64_keep _ (by omega) (by omega)
      clear hsum hdt HH
      go_wp2_with fail
      refine (number_at hrz k 4 (by omega) (by omega) HNN.out _ rfl).mono ?_
      rintro e w2 ⟨rfl, rfl⟩
      by_cases hbig : 1048576 < N
      · have eb : (1048576 : Int) < (N : Int) := by omega
        have HRR : Hid (R = ([], 0, 13)) := by
          unfold Hid
          rw [HR.out]
          unfold frameR
          rw [HH2.out, if_pos hbig]; rfl
        go_wp2
        go_ret3
        rw [HRR.out]
        exact ⟨_, _, _, rfl, ⟨rfl, World.ownsRow_nil _ _ _ _⟩, hbA⟩
      · have eb : (N : Int) ≤ 1048576 := by omega
        have HH3 : Hid (headR (bs.drop k) = (N, 0)) := by unfold Hid; rw [HH2.out, if_neg hbig]
        by_cases htorn : n < k + 8 + N + 4
        · have et : (n : Int) - (k : Int) - 8 < (N : Int) + 4 := by omega
          have HRR : Hid (R = ([], 0, 10)) := by
            unfold Hid
            rw [HR.out]
            unfold frameR
            rw [HH3.out, if_neg (by simp), if_pos (by rw [← HN.out]; exact htorn)]
          clear hbig htorn
          go_wp2
          go_ret3
          rw [HRR.out]
          exact ⟨_, _, _, rfl, ⟨rfl, World.ownsRow_nil _ _ _ _⟩, hbA⟩
        · have et : (N : Int) + 4 ≤ (n : Int) - (k : Int) - 8 := by omega
          have HS1 : Hid ((k : Int) + 8 = ((k + 8 : Nat) : Int)) := by unfold Hid; omega
          have HS2 : Hid ((k : Int) + 8 + (N : Int) = ((k + 8 + N : Nat) : Int)) := by unfold Hid; omega
          have HB1 : Hid (k + 8 ≤ k + 8 + N ∧ k + 8 + N ≤ n ∧ n ≤ 140737488355328) := by unfold Hid; omega
          have exb : (bs.take (k + 8 + N)).drop (k + 8) = (bs.drop (k + 8)).take N := by rw [List.drop_take]; congr 1; omega
          obtain ⟨L, hL⟩ : ∃ L, L = (bs.drop (k + 8)).take N := ⟨_, rfl⟩
          have HXB : Hid ((bs.take (k + 8 + N)).drop (k + 8) = L) := by unfold Hid; rw [exb, hL]
          have HLB : Hid (Bys L ∧ L.length ≤ 1048576) := by unfold Hid; rw [hL]; exact ⟨fun x hx => hr.1 x (List.mem_of_mem_drop (List.mem_of_mem_take hx)), by rw [List.length_take]; omega⟩
          have r4 := hr.sub (k + 8 + N) (k + 12 + N) (by omega) (by omega) (off' := off + (k + 8 + N)) (n' := 4) (cap' := cap - (k + 8 + N)) rfl (by omega) rfl
          have ex4 : (bs.take (k + 12 + N)).drop (k + 8 + N) = (bs.drop (k + 8 + N)).take 4 := by rw [List.drop_take]; congr 1; omega
          rw [ex4] at r4
          obtain ⟨Z, hZ⟩ : ∃ Z, Z = (bs.drop (k + 8 + N)).take 4 := ⟨_, rfl⟩
          rw [← hZ] at r4
          have HR4 : Hid (Rd w1 (.slice (some ⟨b, off + (k + 8 + N), none⟩) 4 (cap - (k + 8 + N))) Z) := r4
          have hZ4 : Z = [(bs.drop (k + 8 + N)).getD 0 0, (bs.drop (k + 8 + N)).getD 1 0, (bs.drop (k + 8 + N)).getD 2 0, (bs.drop (k + 8 + N)).getD 3 0] := by
            rw [hZ]; exact four _ (by rw [List.length_drop, ← HN.out]; omega)
          have hbD : Bys (bs.drop (k + 8 + N)) := fun x hx => hr.1 x (List.mem_of_mem_drop hx)
          have hiff := le4_rdle (sumL L) _ _ _ _ (sumL_lt L) (hbD.get 0) (hbD.get 1) (hbD.get 2) (hbD.get 3)
          rw [← hZ4] at hiff
          have HFR : Hid (R = if le4 (sumL L) = Z then (L, k + 12 + N, 0) else ([], 0, 12)) := by
            unfold Hid
            rw [HR.out]
            unfold frameR
            rw [HH3.out, if_neg (by simp), if_neg (by rw [← HN.out]; exact htorn)]
            simp only
            rw [← hL]
            by_cases hz : le4 (sumL L) = Z
            · rw [if_pos hz, if_neg (by have := hiff.1 hz; omega)]
            · rw [if_neg hz, if_pos (fun h => hz (hiff.2 h))]
          have HS4 : Hid ((k : Int) + 12 + (N : Int) = ((k + 12 + N : Nat) : Int)) := by unfold Hid; omega
          have wr8N : IntKind.i64.wrap ((k : Int) + 8 + (N : Int)) = (k : Int) + 8 + (N : Int) := i64_keep _ (by omega) (by omega)
          have wr12 : IntKind.i64.wrap ((k : Int) + 12) = (k : Int) + 12 := i64_keep _ (by omega) (by omega)
          have wr12N : IntKind.i64.wrap ((k : Int) + 12 + (N : Int)) = (k : Int) + 12 + (N : Int) := i64_keep _ (by omega) (by omega)
          have q1 : (0 : Int) ≤ (k : Int) + 8 + (N : Int) := by omega
          have q2 : (k : Int) + 8 + (N : Int) ≤ (k : Int) + 12 + (N : Int) := by omega
          have q3 : (k : Int) + 12 + (N : Int) ≤ (cap : Int) := by omega
          clear hbig htorn exb hL r4 ex4 hZ hZ4 hbD hiff HH2 HH3 hr
          go_wp2_with fail
          refine (refPart_at hrz _ _ (k + 8) (k + 8 + N) HS1.out HS2.out HB1.out.1 HB1.out.2.1 HB1.out.2.2).mono ?_
          rintro e w3 ⟨a3, m3, c3, rfl, own3, hb3⟩
          rw [HXB.out] at own3
          have r3 := own3.rd HLB.out.1 (by rw [own3.1]; have := HLB.out.2; omega)
          have B3 := hbA.trans (hb3.mono hbA.size)
          have own33 := own3.mono hbA.size
          have BD3 : Below w3.heap.size w3 w3.drew := (Below.refl _ _).drew
          clear hb3 own3 hrz
          go_wp2_with fail
          go_region_held3 (fun wx => Below w3.heap.size w3 wx) (first | exact BD3 | exact hbB | assumption) (first | (go_at_call 64; refine (sealed_any (r3.later BD3)).mono ?_; rintro e wa ⟨ab, mb, cb, rfl, ownb, hbb⟩; have rb := ownb.rd (HSB.out _) (by rw [ownb.1]; simp [le4]); have hbB : Below w3.heap.size w3 wa := BD3.trans (hbb.mono (Nat.le_refl _)); clear ownb hbb) | (go_at_call 66; refine (refSame_sl rb (HR4.out.later (B3.trans (hbB.mono B3.size))) (by first | rfl | omega | (simp; omega)) (by first | rfl | omega | (simp; omega)) (by first | rfl | omega | (simp; omega))).mono ?_; rintro e wz ⟨rfl, rfl⟩))
          have B4 := B3.trans (hbB.mono B3.size)
          have own4 := own33.later hbB
          by_cases hz : le4 (sumL L) = Z
          · have hdt : decide (le4 (sumL L) = Z) = true := by simp [hz]
            have HRR : Hid (R = (L, k + 12 + N, 0)) := by unfold Hid; rw [HFR.out, if_pos hz]
            rw [hdt]
            clear hz hdt
            go_wp2
            go_ret3
            rw [HRR.out]
            refine ⟨a3, m3, c3, ?_, own4, B4⟩
            exact congrArg (fun z : Int => Ending.returned (Value.tuple #[Value.slice a3 m3 c3, Value.int .i64 z, Value.int .i64 0])) HS4.out
          · have hdt : decide (le4 (sumL L) = Z) = false := by simp [hz]
            have HRR : Hid (R = ([], 0, 12)) := by unfold Hid; rw [HFR.out, if_neg hz]
            rw [hdt]
            clear hz hdt
            go_wp2
            go_ret3
            rw [HRR.out]
            exact ⟨_, _, _, rfl, ⟨rfl, World.ownsRow_nil _ _ _ _⟩, B4⟩
    · have hdt : decide (le4 (sumL X) = Y) = false := by simp [hsum]
      have HRR : Hid (R = ([], 0, 12)) := by
        unfold Hid
        rw [HR.out]
        unfold frameR
        rw [HH.out, if_neg hsum]; rfl
      rw [hdt]
      clear hsum hdt
      go_wp2
      go_ret3
      rw [HRR.out]
      exact ⟨_, _, _, rfl, ⟨rfl, World.ownsRow_nil _ _ _ _⟩, hbA⟩

end Go.Proofs.YtledfniedoapiaaDoor

namespace Go.Proofs.YtledfniedoapiaaDoor
open Go.RowKit
set_option linter.unusedVariables false

theorem rord_ok : ∀ (m : Nat) (l acc : List Nat) (i : Nat), l.length ≤ m → Bys l → Bys acc → Bys (rord l acc i).1 ∧ (rord l acc i).1.length ≤ acc.length + l.length := by
  intro m
  induction m with
  | zero =>
    intro l acc i hl hb ha
    obtain rfl : l = [] := List.eq_nil_of_length_eq_zero (by omega)
    rw [rord_nil]
    exact ⟨fun x hx => by simp at hx, by simp⟩
  | succ m ih =>
    intro l acc i hl hb ha
    cases l with
    | nil => rw [rord_nil]; exact ⟨fun x hx => by simp at hx, by simp⟩
    | cons c r =>
      by_cases hc : c = 0
      · subst hc
        cases r with
        | nil => exact ⟨fun x hx => by simp [rord] at hx, by simp [rord]⟩
        | cons d r =>
          rw [rord_zero]
          split
          · exact ⟨ha, by simp⟩
          · split
            · obtain ⟨h1, h2⟩ := ih r (acc ++ [0]) (i + 2) (by simp at hl; omega) (fun x hx => hb x (by simp [hx])) (ha.app (fun x hx => by simp at hx; omega))
              exact ⟨h1, by simp at h2 ⊢; omega⟩
            · exact ⟨fun x hx => by simp at hx, by simp⟩
      · rw [rord_step _ _ _ _ hc]
        obtain ⟨h1, h2⟩ := ih r (acc ++ [c]) (i + 1) (by simp at hl; omega) (fun x hx => hb x (by simp [hx])) (ha.app (fun x hx => by simp at hx; subst hx; exact hb _ (by simp)))
        exact ⟨h1, by simp at h2 ⊢; omega⟩
theorem ordR_ok (bs : List Nat) (k : Nat) (hb : Bys bs) : Bys (ordR bs k).1 ∧ (ordR bs k).1.length ≤ bs.length := by
  obtain ⟨h1, h2⟩ := rord_ok _ (bs.drop k) [] 0 (Nat.le_refl _) (fun x hx => hb x (List.mem_of_mem_drop hx)) (fun x hx => by simp at hx)
  exact ⟨h1, by have : (ordR bs k).1 = (rord (bs.drop k) [] 0).1 := rfl; rw [this]; simp at h2; omega⟩

end Go.Proofs.YtledfniedoapiaaDoor

namespace Go.Proofs.YtledfniedoapiaaDoor
open Go.RowKit
set_option linter.unusedVariables false

theorem info_row : (Tryd.prog.info? 23).map (fun i => (i.zero, i.size, i.bytes)) = some (some (.slice none 0 0), 1, 24) := by kernel_rfl
def marks : List Nat := [201, 202, 203, 204, 205]
theorem marks_bys : Bys marks := by intro x hx; simp [marks] at hx; omega

/-- A row of slices. -/
abbrev Row (w : World) (B : Nat) (s : Value) (us : List Value) : Prop := w.ownsRow B 23 1 s us.length us
theorem Row.later {w w' : World} {B n : Nat} {v : Value} {xs : List Value} (h : w.ownsRow B 23 1 v n xs) (hb : Below w.heap.size w w') : w'.ownsRow B 23 1 v n xs := by
  refine ⟨h.1, ?_⟩
  rcases h.2 with h2 | ⟨g, cap, cur, h3, h4, h5, h6⟩
  · exact .inl h2
  · exact .inr ⟨g, cap, cur, h3, h4, by rw [hb.block g (Array.getElem?_eq_some_iff.1 h5).1]; exact h5, h6⟩
/-- What owns its bytes keeps them while a row of slices grows. -/
theorem Own.beside {w w' : World} {B B2 n m : Nat} {s v : Value} {us : List Value} {xs : List Nat} (h : Own w B v m xs) (hr : w.ownsRow B2 23 1 s n us) (k : w.grownBy w' s.ownBlock) : Own w' B v m xs := by
  refine ⟨h.1, h.2.1, ?_⟩
  rcases h.2.2 with h2 | ⟨g, cap, cur, h3, h4, h5, h6⟩
  · exact .inl h2
  · refine .inr ⟨g, cap, cur, h3, h4, ?_, h6⟩
    rw [k.block g (Array.getElem?_eq_some_iff.1 h5).1 ?_]
    · exact h5
    · rcases hr.2 with ⟨rfl, _⟩ | ⟨g2, cap2, cur2, rfl, _, h7, _⟩
      · simp [Value.ownBlock]
      · simp only [Value.ownBlock]
        intro e
        obtain rfl : g = g2 := by simpa using e
        rw [h5] at h7
        have h8 : 5 = 23 := by
          have := Option.some.inj h7
          injection this
        exact absurd h8 (by decide)

/-- Bytes with marks behind them, and the slice that stops ahead of the marks. -/
def Wide (w : World) (B : Nat) (u : Value) (bs : List Nat) : Prop := ∃ g c, u = .slice (some ⟨g, 0, none⟩) bs.length c ∧ bs.length + 5 ≤ c ∧ c ≤ maxLen ∧ Own w B (.slice (some ⟨g, 0, none⟩) (bs.length + 5) c) (bs.length + 5) (bs ++ marks)
theorem Wide.later {w w' : World} {B : Nat} {u : Value} {bs : List Nat} (h : Wide w B u bs) (hb : Below w.heap.size w w') : Wide w' B u bs := by
  obtain ⟨g, c, h1, h2, h3, h4⟩ := h
  exact ⟨g, c, h1, h2, h3, h4.later hb⟩
theorem Wide.beside {w w' : World} {B B2 n : Nat} {s u : Value} {us : List Value} {bs : List Nat} (h : Wide w B u bs) (hr : w.ownsRow B2 23 1 s n us) (k : w.grownBy w' s.ownBlock) : Wide w' B u bs := by
  obtain ⟨g, c, h1, h2, h3, h4⟩ := h
  exact ⟨g, c, h1, h2, h3, h4.beside hr k⟩
theorem Wide.all {w : World} {B g c : Nat} {bs : List Nat} (h4 : Own w B (.slice (some ⟨g, 0, none⟩) (bs.length + 5) c) (bs.length + 5) (bs ++ marks)) (hb : Bys bs) (hl : bs.length ≤ 140737488355328) : Rd w (.slice (some ⟨g, 0, none⟩) (bs.length + 5) c) (bs ++ marks) :=
  h4.rd (hb.app marks_bys) (by omega)
theorem Wide.rd {w : World} {B : Nat} {u : Value} {bs : List Nat} (h : Wide w B u bs) (hb : Bys bs) (hl : bs.length ≤ 140737488355328) : Rd w u bs := by
  obtain ⟨g, c, rfl, h2, h3, h4⟩ := h
  have := (Wide.all h4 hb hl).upto bs.length (by omega)
  simpa using this

/-- append(parts, u): a row of slices, one more. -/
theorem wpList_append_u {w : World} {ops : Array Oper} {rest : List Oper} {o : Oper} {a : Act} {Q : Exit → Act → World → Prop} (hgd : o.guard = none) (s x : Operand)
    (ho : o.op = .call { callee := .builtin .append, args := #[s, x], argTypes := #[25, 25] })
    (B : Nat) (a0 : Option Addr) (m0 c0 : Nat) (us : List Value) (hs : a.eval s = .slice a0 m0 c0) (hown : w.ownsRow B 23 1 (.slice a0 m0 c0) m0 us)
    (u : Value) (hu : u.oneCell' = true) (g : Nat) (hg : g = w.heap.size) (hx : a.eval x = .slice (some ⟨g, 0, none⟩) 1 1)
    (hbytes : m0 ≤ 1048600) (hB : B ≤ w.heap.size)
    (h : ∀ a' c' w', w'.ownsRow B 23 1 (.slice a' (m0 + 1) c') (m0 + 1) (us ++ [u]) → (w.alloc (.cells #[u] 23)).grownBy w' (Value.slice a0 m0 c0).ownBlock → Below B w w' → wpList Tryd.prog ops Q rest (a.put o.dst (.slice a' (m0 + 1) c')) w') : wpList Tryd.prog ops Q (o :: rest) a (w.alloc (.cells #[u] 23)) := by
  subst hg
  obtain ⟨i0, hi, hz0, hz1, hz2⟩ := info_parts info_row
  refine wpList_append_own _ hgd s x 25 ho B 23 i0 (.slice none 0 0) 1 24 und_parts hi hz0 hz1 hz2 rfl (by decide) _ m0 us hs (hown.alloc _) ⟨w.heap.size, 0, none⟩ 1 1 [u] hx rfl (news_new _ _ _) (by intro y hy; simp at hy; subst hy; exact hu) (by unfold maxLen; omega) (by omega) (by simp; omega) ?_
  intro v' w' h1 h2 _
  obtain ⟨a', c', rfl⟩ : ∃ a c, v' = .slice a (m0 + 1) c := by
    rcases h1.2 with ⟨rfl, h0⟩ | ⟨g, cap, cur, rfl, _⟩
    · omega
    · exact ⟨_, _, rfl⟩
  exact h a' c' w' h1 h2 (((Below.refl B w).alloc hB _).grown h2 (by simp; omega) (fun k hk => (hown.lt k hk).1))

theorem Row.cell {w : World} {B n : Nat} {a : Option Addr} {c : Nat} {us : List Value} (h : w.ownsRow B 23 1 (.slice a n c) n us) (i : Nat) (hi : i < n) : ∃ g u, a = some ⟨g, 0, none⟩ ∧ us[i]? = some u ∧ w.cell? ⟨g, i, none⟩ = some u ∧ n ≤ c ∧ c ≤ maxLen := by
  have hl : us.length = n := by have := h.1; omega
  rcases h.2 with ⟨h1, h2⟩ | ⟨g, cap, cur, h1, h2, h3, h4, h5, h6, h7⟩
  · omega
  · simp only [Value.slice.injEq] at h1
    obtain ⟨rfl, _, rfl⟩ := h1
    obtain ⟨u, hu⟩ : ∃ u, us[i]? = some u := ⟨us[i], List.getElem?_eq_getElem (by omega)⟩
    refine ⟨g, u, rfl, hu, ?_, h4, h5⟩
    rw [← h7, List.getElem?_take_of_lt (by omega)] at hu
    have e2 : cur[i]? = some u := by simpa using hu
    simp [World.cell?, h3, e2]

/-- A call's struct lies in a block of its own. -/
def Box (w : World) (g : Nat) (k : Int) (vb : Value) (z nn vv : Int) (vp : Value) : Prop := w.heap[g]? = some (.cells #[.int .i64 k, vb, .int .i64 z, .int .i64 nn, .int .u64 vv, vp] 38 (0, 0))
theorem Box.later {w w' : World} {g : Nat} {k : Int} {vb : Value} {z nn vv : Int} {vp : Value} (h : Box w g k vb z nn vv vp) (hb : Below w.heap.size w w') : Box w' g k vb z nn vv vp := by
  unfold Box at *
  rw [hb.block g (Array.getElem?_eq_some_iff.1 h).1]; exact h
theorem Box.beside {w w' : World} {g : Nat} {k : Int} {vb : Value} {z nn vv : Int} {vp : Value} {B2 n : Nat} {s : Value} {us : List Value} (h : Box w g k vb z nn vv vp) (hr : w.ownsRow B2 23 1 s n us) (kk : w.grownBy w' s.ownBlock) : Box w' g k vb z nn vv vp := by
  unfold Box at *
  rw [kk.block g (Array.getElem?_eq_some_iff.1 h).1 ?_]
  · exact h
  · rcases hr.2 with ⟨rfl, _⟩ | ⟨g2, cap2, cur2, rfl, _, h7, _⟩
    · simp [Value.ownBlock]
    · simp only [Value.ownBlock]
      intro e
      obtain rfl : g = g2 := by simpa using e
      rw [h] at h7
      have h8 : 38 = 23 := by
        have := Option.some.inj h7
        injection this
      exact absurd h8 (by decide)
theorem Box.kind {w : World} {g : Nat} {k : Int} {vb : Value} {z nn vv : Int} {vp : Value} (h : Box w g k vb z nn vv vp) : w.cell? ⟨g, 0, none⟩ = some (.int .i64 k) := by unfold Box at h; simp [World.cell?, h]
theorem Box.b {w : World} {g : Nat} {k : Int} {vb : Value} {z nn vv : Int} {vp : Value} (h : Box w g k vb z nn vv vp) : w.cell? ⟨g, 1, none⟩ = some vb := by unfold Box at h; simp [World.cell?, h]
theorem Box.z {w : World} {g : Nat} {k : Int} {vb : Value} {z nn vv : Int} {vp : Value} (h : Box w g k vb z nn vv vp) : w.cell? ⟨g, 2, none⟩ = some (.int .i64 z) := by unfold Box at h; simp [World.cell?, h]
theorem Box.n {w : World} {g : Nat} {k : Int} {vb : Value} {z nn vv : Int} {vp : Value} (h : Box w g k vb z nn vv vp) : w.cell? ⟨g, 3, none⟩ = some (.int .i64 nn) := by unfold Box at h; simp [World.cell?, h]
theorem Box.v {w : World} {g : Nat} {k : Int} {vb : Value} {z nn vv : Int} {vp : Value} (h : Box w g k vb z nn vv vp) : w.cell? ⟨g, 4, none⟩ = some (.int .u64 vv) := by unfold Box at h; simp [World.cell?, h]
theorem Box.p {w : World} {g : Nat} {k : Int} {vb : Value} {z nn vv : Int} {vp : Value} (h : Box w g k vb z nn vv vp) : w.cell? ⟨g, 5, none⟩ = some vp := by unfold Box at h; simp [World.cell?, h]
theorem Box.new (w : World) (k : Int) (vb : Value) (z nn vv : Int) (vp : Value) : Box (w.alloc (.cells #[.int .i64 k, vb, .int .i64 z, .int .i64 nn, .int .u64 vv, vp] 38)) w.heap.size k vb z nn vv vp := by
  exact heap_new w _
theorem wide_of_row {w : World} {B k gp c4 : Nat} {us : List Value} {x : Value} {ps : List (List Nat)} (row : w.ownsRow B 23 1 (.slice (some ⟨gp, 0, none⟩) (k + 1) c4) (k + 1) (us ++ [x]))
    (hw : ∀ j u, us[j]? = some u → Wide w B u (ps.getD j [])) (i : Nat) (hi : i < k) : ∃ u, w.cell? ⟨gp, i, none⟩ = some u ∧ Wide w B u (ps.getD i []) := by
  obtain ⟨g, u, hg, hu, hc, _, _⟩ := Row.cell row i (by omega)
  obtain rfl : gp = g := by simpa using hg
  have hl : us.length = k := by have := row.1; simp at this; omega
  rw [List.getElem?_append_left (by omega)] at hu
  exact ⟨u, hc, hw i u hu⟩
theorem last_of_row {w : World} {B k gp c4 : Nat} {us : List Value} {x : Value} (row : w.ownsRow B 23 1 (.slice (some ⟨gp, 0, none⟩) (k + 1) c4) (k + 1) (us ++ [x])) : w.cell? ⟨gp, k, none⟩ = some x := by
  obtain ⟨g, u, hg, hu, hc, _, _⟩ := Row.cell row k (by omega)
  obtain rfl : gp = g := by simpa using hg
  have hl : us.length = k := by have := row.1; simp at this; omega
  rw [List.getElem?_append_right (by omega), hl, Nat.sub_self] at hu
  simp at hu
  subst hu
  exact hc
theorem rdp_of_row {w : World} {B k gp c4 n : Nat} {us : List Value} {x : Value} {ps : List (List Nat)} (row : w.ownsRow B 23 1 (.slice (some ⟨gp, 0, none⟩) (k + 1) c4) (k + 1) (us ++ [x]))
    (hk : k = n) (hn : n = ps.length) (hn2 : n ≤ 1048576) (hw : ∀ j u, us[j]? = some u → Wide w B u (ps.getD j [])) (hby : ∀ j, j < ps.length → Bys (ps.getD j [])) (hl : ∀ i, (ps.getD i []).length ≤ 1048576) : RdP w (.slice (some ⟨gp, 0, none⟩) n c4) ps := by
  refine ⟨by omega, some ⟨gp, 0, none⟩, c4, by rw [hn], .inr ⟨gp, 0, rfl, fun i hi => ?_⟩⟩
  obtain ⟨u, hc, hwd⟩ := wide_of_row row hw i (by omega)
  exact ⟨u, by rw [Nat.zero_add]; exact hc, hwd.rd (hby i hi) (by have := hl i; omega)⟩
theorem rdp_bys {w : World} {ap : Option Addr} {ps : List (List Nat)} (h : ps = [] ∨ ∃ b off, ap = some ⟨b, off, none⟩ ∧ ∀ i, i < ps.length → ∃ u, w.cell? ⟨b, off + i, none⟩ = some u ∧ Rd w u (ps.getD i [])) (j : Nat) (hj : j < ps.length) : Bys (ps.getD j []) := by
  rcases h with h | ⟨b, off, _, hc⟩
  · rw [h] at hj; simp at hj
  · obtain ⟨u, _, hr⟩ := hc j hj; exact hr.1
theorem same_w {v : Value} {b off off' n n' c c' : Nat} {xs ys : List Nat} {w : World} (ha : Rd w (.slice (some ⟨b, off', none⟩) n' c') xs) (hb : Rd w v ys) (h1 : off = off') (h2 : n = n') (h3 : c = c') :
    Calls Tryd.prog 12 #[.slice (some ⟨b, off, none⟩) n c, v] w fun e w' => e = .returned (.bool (decide (xs = ys))) ∧ w' = w := by
  subst h1 h2 h3; exact same_any ha hb
theorem bys207 : Bys [207] := by intro x hx; simp at hx; omega

end Go.Proofs.YtledfniedoapiaaDoor

namespace Go.Proofs.YtledfniedoapiaaDoor
open Go.RowKit
set_option linter.unusedVariables false

/-- What ReadOrdered answers, whatever the place. -/
def ordZ (bs : List Nat) (z : Int) : List Nat × Nat × Nat := if z < 0 ∨ (bs.length : Int) < z then ([], 0, 1) else ordR bs z.toNat
theorem ordZ_ok (bs : List Nat) (z : Int) (hb : Bys bs) : Bys (ordZ bs z).1 ∧ (ordZ bs z).1.length ≤ bs.length := by
  unfold ordZ
  split
  · exact ⟨fun x hx => by simp at hx, by simp⟩
  · exact ordR_ok bs _ hb
theorem place (bs : List Nat) (z : Int) : (z < 0 ∨ (bs.length : Int) < z) ∨ ∃ k : Nat, z = (k : Int) ∧ k ≤ bs.length ∧ ¬ (z < 0 ∨ (bs.length : Int) < z) := by
  by_cases h : z < 0 ∨ (bs.length : Int) < z
  · exact .inl h
  · exact .inr ⟨z.toNat, by omega, by omega, h⟩
theorem readOrdered_p {v : Value} {bs : List Nat} {w : World} (hr : Rd w v bs) (z : Int) (h47 : bs.length ≤ 140737488355328) {L : List Nat} {P E : Nat} (h : ordZ bs z = (L, P, E)) :
    Calls Tryd.prog 23 #[v, .int .i64 z] w fun e w' => ∃ a m c, e = .returned (.tuple #[.slice a m c, .int .i64 (P : Int), .int .i64 (E : Int)]) ∧ Rd w' (.slice a m c) L ∧ Below w.heap.size w w' := by
  rcases place bs z with h0 | ⟨k, rfl, hk, h0⟩
  · rw [ordZ, if_pos h0] at h
    cases h
    refine (readOrdered_out hr z h0).mono ?_
    rintro e w' ⟨rfl, rfl⟩
    exact ⟨none, 0, 0, rfl, Rd.nil _, Below.refl _ _⟩
  · have hok := ordR_ok bs k hr.1
    rw [ordZ, if_neg h0, Int.toNat_natCast] at h
    refine (readOrdered_in hr k hk h47).mono ?_
    rintro e w' ⟨a, m, c, rfl, own, hb⟩
    rw [h] at own hok ⊢
    exact ⟨a, m, c, rfl, own.rd hok.1 (by rw [own.1]; have := hok.2; simp at this; omega), hb⟩
theorem refReadOrdered_p {v : Value} {bs : List Nat} {w : World} (hr : Rd w v bs) (z : Int) (h47 : bs.length ≤ 140737488355328) {L : List Nat} {P E : Nat} (h : ordZ bs z = (L, P, E)) :
    Calls Tryd.prog 40 #[v, .int .i64 z] w fun e w' => ∃ a m c, e = .returned (.tuple #[.slice a m c, .int .i64 (P : Int), .int .i64 (E : Int)]) ∧ Rd w' (.slice a m c) L ∧ Below w.heap.size w w' := by
  rcases place bs z with h0 | ⟨k, rfl, hk, h0⟩
  · rw [ordZ, if_pos h0] at h
    cases h
    refine (refReadOrdered_out hr z h0).mono ?_
    rintro e w' ⟨rfl, rfl⟩
    exact ⟨none, 0, 0, rfl, Rd.nil _, Below.refl _ _⟩
  · have hok := ordR_ok bs k hr.1
    rw [ordZ, if_neg h0, Int.toNat_natCast] at h
    refine (refReadOrdered_in hr k hk h47).mono ?_
    rintro e w' ⟨a, m, c, rfl, own, hb⟩
    rw [h] at own hok ⊢
    exact ⟨a, m, c, rfl, own.rd hok.1 (by rw [own.1]; have := hok.2; simp at this; omega), hb⟩

set_option maxRecDepth 100000 in
set_option maxHeartbeats 4000000 in
theorem strings_10 {vb vp : Value} {bs : List Nat} {w : World} (z nn vv : Int) (hb : Rd w vb bs) (hl : bs.length ≤ 1048576) :
    Calls Tryd.prog 32 #[.agg #[.int .i64 10, vb, .int .i64 z, .int .i64 nn, .int .u64 vv, vp]] w fun e w' => e = .returned (.bool true) ∧ Below w.heap.size w w' := by
  obtain ⟨ab, nb, capb, rfl⟩ := rd_slice hb
  obtain ⟨R, hR⟩ : ∃ R, R = ordZ bs z := ⟨_, rfl⟩
  obtain ⟨L, P, E⟩ := R
  have HR : Hid (ordZ bs z = (L, P, E)) := hR.symm
  have HL : Hid (bs.length ≤ 1048576) := hl
  clear hR hl
  have A1 := (Below.refl w.heap.size w).alloc (Nat.le_refl _) (.cells #[.int .i64 10, .slice ab nb capb, .int .i64 z, .int .i64 nn, .int .u64 vv, vp] 38)
  have bx1 : Hid (Box (w.alloc (.cells #[.int .i64 10, .slice ab nb capb, .int .i64 z, .int .i64 nn, .int .u64 vv, vp] 38)) w.heap.size 10 (.slice ab nb capb) z nn vv vp) := Box.new w 10 (.slice ab nb capb) z nn vv vp
  have rb1 := hb.later A1
  go_enter Tryd.func32, Tryd.ntmps32
  go_wp2_with fail
  refine (readOrdered_p rb1 z (by have := HL.out; omega) HR.out).mono ?_
  rintro e w2 ⟨a2, m2, c2, rfl, r2, hb2⟩
  have bx2 : Hid (Box w2 w.heap.size 10 (.slice ab nb capb) z nn vv vp) := bx1.out.later hb2
  have hxb := bx2.out.b
  have hxz := bx2.out.z
  have B2 := A1.trans (hb2.mono A1.size)
  have rb2 := hb.later B2
  clear hb2 A1 bx1 rb1
  go_wp2_with fail
  refine (refReadOrdered_p rb2 z (by have := HL.out; omega) HR.out).mono ?_
  rintro e w3 ⟨a3, m3, c3, rfl, r3, hb3⟩
  have r23 := r2.later hb3
  have B3 := B2.trans (hb3.mono B2.size)
  clear hb3 B2 bx2 hxb hxz r2
  go_wp2_with fail
  refine (same_any r23 r3).mono ?_
  rintro e w4 ⟨rfl, rfl⟩
  rw [decide_eq_true rfl]
  go_wp2_with fail
  refine (num_any _ _).mono ?_
  rintro e w5 ⟨rfl, rfl⟩
  go_wp2
  go_ret
  exact ⟨by simp, B3⟩

set_option maxRecDepth 100000 in
set_option maxHeartbeats 4000000 in
theorem strings_9 {vb vp : Value} {bs : List Nat} {w : World} (z nn vv : Int) (hb : Rd w vb bs) (hl : bs.length ≤ 1048576) :
    Calls Tryd.prog 32 #[.agg #[.int .i64 9, vb, .int .i64 z, .int .i64 nn, .int .u64 vv, vp]] w fun e w' => e = .returned (.bool true) ∧ Below w.heap.size w w' := by
  obtain ⟨ab, nb, capb, rfl⟩ := rd_slice hb
  have HOL : Hid ((ordL bs).length ≤ 4194304) := by
    unfold Hid
    have h1 := ordL_len bs
    have h2 : bs.count 0 ≤ bs.length := List.count_le_length
    omega
  have HBY : Hid (Bys (ordL bs)) := ordL_bys bs hb.1
  clear hl
  have A1 : Below w.heap.size w (w.alloc (.cells #[.int .i64 9, .slice ab nb capb, .int .i64 z, .int .i64 nn, .int .u64 vv, vp] 38)) := (Below.refl w.heap.size w).alloc (Nat.le_refl _) _
  have bx1 : Hid (Box (w.alloc (.cells #[.int .i64 9, .slice ab nb capb, .int .i64 z, .int .i64 nn, .int .u64 vv, vp] 38)) w.heap.size 9 (.slice ab nb capb) z nn vv vp) := Box.new w 9 (.slice ab nb capb) z nn vv vp
  have BD : Below w.heap.size w (w.alloc (.cells #[.int .i64 9, .slice ab nb capb, .int .i64 z, .int .i64 nn, .int .u64 vv, vp] 38)).drew := A1.trans ((Below.refl _ _).drew.mono A1.size)
  have bxD : Hid (Box (w.alloc (.cells #[.int .i64 9, .slice ab nb capb, .int .i64 z, .int .i64 nn, .int .u64 vv, vp] 38)).drew w.heap.size 9 (.slice ab nb capb) z nn vv vp) := bx1.out
  have hcD : (w.alloc (.cells #[.int .i64 9, .slice ab nb capb, .int .i64 z, .int .i64 nn, .int .u64 vv, vp] 38)).drew.cell? ⟨w.heap.size, 1, none⟩ = some (.slice ab nb capb) := bxD.out.b
  have HRB : Hid (Rd w (.slice ab nb capb) bs) := hb
  clear hb
  go_enter Tryd.func32, Tryd.ntmps32
  go_wp2_with fail
  go_region_held3 (fun wx => wx.cell? ⟨w.heap.size, 1, none⟩ = some (.slice ab nb capb) ∧ Below w.heap.size w wx) (first | exact ⟨hcD, BD⟩ | exact ⟨hcA, hbA⟩ | exact ⟨hcB, hbB⟩ | assumption) (first | (go_at_call 47; refine (ordered_any (HRB.out.later BD) (by have := HOL.out; omega)).mono ?_; rintro e wa ⟨aa, ma, ca, rfl, owna, hba⟩; have ra := owna.rd HBY.out (by rw [owna.1]; have := HOL.out; omega); have hbA : Below w.heap.size w wa := BD.trans (hba.mono BD.size); have bxA : Hid (Box wa w.heap.size 9 (.slice ab nb capb) z nn vv vp) := bxD.out.later hba; have hcA := bxA.out.b; clear owna hba) | (go_at_call 37; refine (refOrdered_any (HRB.out.later hbA) (by have := HOL.out; omega)).mono ?_; rintro e wb ⟨ab2, mb2, cb2, rfl, ownb, hbb⟩; have rb := ownb.rd HBY.out (by rw [ownb.1]; have := HOL.out; omega); have hbB : Below w.heap.size w wb := hbA.trans (hbb.mono hbA.size); have bxB : Hid (Box wb w.heap.size 9 (.slice ab nb capb) z nn vv vp) := bxA.out.later hbb; have hcB := bxB.out.b; have ra2 := ra.later hbb; clear ownb hbb ra) | (go_at_call 12; refine (same_any ra2 rb).mono ?_; rintro e wz ⟨rfl, rfl⟩))
  go_wp2
  go_ret
  exact ⟨rfl, by assumption⟩

end Go.Proofs.YtledfniedoapiaaDoor
