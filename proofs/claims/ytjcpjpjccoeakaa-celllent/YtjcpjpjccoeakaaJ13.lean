import Derived.Test.YtjcpjpjccoeakaaJ12
import Derived.Test.YtjcpjpjccoeakaaJ02
import Derived.Test.YtjcpjpjccoeakaaJ07
import Derived.Test.YtjcpjpjccoeakaaJ11
namespace Go.Proofs.Ytjcpjpjccoeakaa
open Go.RowKit
set_option linter.unusedVariables false

theorem ruint_back : ∀ (f : Nat) (l : List Nat) (i v V c : Nat), ruint f l i v = (V, c, 0) → i + f = 9 → Bys l → ∃ u, V = v + u * 128 ^ i ∧ uintF f u = l.take (c - i) ∧ (0 < i → 0 < u) ∧ i < c := by
  intro f
  induction f with
  | zero =>
    intro l i v V c h hi hb
    cases l with
    | nil => simp [ruint] at h
    | cons x r =>
      unfold ruint at h
      split at h
      · simp at h
      · split at h
        · simp at h
        · split at h
          · simp at h
          · rename_i h1 h2 h3
            simp only [Prod.mk.injEq, and_true] at h
            obtain ⟨rfl, rfl⟩ := h
            refine ⟨x, by rw [Nat.mod_eq_of_lt (by omega)], ?_, fun hp => by omega, by omega⟩
            simp [uintF]
  | succ f ih =>
    intro l i v V c h hi hb
    cases l with
    | nil => simp [ruint] at h
    | cons x r =>
      have hx := hb x (by simp)
      unfold ruint at h
      split at h
      · simp at h
      · split at h
        · rename_i h1 h2
          obtain ⟨u, hu1, hu2, hu3, hu4⟩ := ih r (i + 1) _ V c h (by omega) (fun y hy => hb y (by simp [hy]))
          have hu0 := hu3 (by omega)
          refine ⟨x % 128 + 128 * u, ?_, ?_, fun _ => by omega, by omega⟩
          · rw [hu1, Nat.pow_succ, Nat.add_mul]
            have : u * (128 ^ i * 128) = 128 * u * 128 ^ i := by rw [Nat.mul_comm (128 ^ i) 128, ← Nat.mul_assoc, Nat.mul_comm u 128]
            omega
          · rw [uintF_go f _ (by omega)]
            have e1 : (x % 128 + 128 * u) % 128 + 128 = x := by omega
            have e2 : (x % 128 + 128 * u) / 128 = u := by omega
            rw [e1, e2, hu2, show c - i = (c - (i + 1)) + 1 by omega]
            rfl
        · split at h
          · simp at h
          · rename_i h1 h2 h3
            simp only [Prod.mk.injEq, and_true] at h
            obtain ⟨rfl, rfl⟩ := h
            refine ⟨x, by rw [Nat.mod_eq_of_lt (by omega)], ?_, fun hp => by omega, by omega⟩
            rw [uintF_stop (f + 1) x (by omega)]
            simp
/-- What ReadUint reads, Uint writes just so. -/
theorem uint_back {bs : List Nat} {k V P : Nat} (hb : Bys bs) (h : uintR bs k = (V, P, 0)) : uintL V = (bs.take P).drop k := by
  unfold uintR at h
  simp only [Prod.mk.injEq] at h
  obtain ⟨h1, h2, h3⟩ := h
  rw [if_pos h3] at h2
  obtain ⟨u, hu1, hu2, _, _⟩ := ruint_back 9 (bs.drop k) 0 0 V (ruint 9 (bs.drop k) 0 0).2.1 (Prod.ext h1 (Prod.ext rfl h3)) rfl (fun x hx => hb x (List.mem_of_mem_drop hx))
  have : u = V := by simpa using hu1.symm
  subst this
  unfold uintL
  rw [hu2, ← h2, List.drop_take]
  simp
/-- What ReadBytes reads, Bytes writes just so. -/
theorem bytes_back {bs L : List Nat} {k P most : Nat} (hb : Bys bs) (hk : k ≤ bs.length) (h : bytesR bs k most = (L, P, 0)) : bytesL L = (bs.take P).drop k ∧ k < P ∧ P ≤ bs.length ∧ L.length ≤ bs.length := by
  unfold bytesR at h
  obtain ⟨R, hR⟩ : ∃ R, R = uintR bs k := ⟨_, rfl⟩
  rw [← hR] at h
  obtain ⟨V, p, E⟩ := R
  simp only at h
  split at h
  · rename_i he; simp only [Prod.mk.injEq] at h; omega
  · rename_i he
    have hE : E = 0 := by omega
    subst hE
    split at h
    · simp at h
    · split at h
      · simp at h
      · rename_i h1 h2
        simp only [Prod.mk.injEq, and_true] at h
        obtain ⟨rfl, rfl⟩ := h
        obtain ⟨hkp, hpn, hV⟩ := uintR_ok hR.symm hk
        have hu := uint_back hb hR.symm
        have hl : ((bs.drop p).take V).length = V := by rw [List.length_take, List.length_drop]; omega
        refine ⟨?_, by omega, by omega, by rw [hl]; omega⟩
        unfold bytesL
        rw [hl, hu]
        have e : bs.take (p + V) = bs.take p ++ (bs.drop p).take V := by rw [List.take_add]
        rw [e, List.drop_append_of_le_length (by rw [List.length_take]; omega)]
theorem rord_back : ∀ (m : Nat) (l acc : List Nat) (i : Nat) (L : List Nat) (c : Nat), l.length ≤ m → rord l acc i = (L, c, 0) → ∃ t, L = acc ++ t ∧ ordL t = l.take (c - i) ∧ i < c ∧ c ≤ i + l.length := by
  intro m
  induction m with
  | zero =>
    intro l acc i L c hl h
    have : l = [] := List.eq_nil_of_length_eq_zero (by omega)
    subst this
    simp [rord] at h
  | succ m ih =>
    intro l acc i L c hl h
    match l, hl, h with
    | [], _, h => simp [rord] at h
    | [x], _, h => simp [rord] at h
    | x :: d :: r, hl, h =>
      unfold rord at h
      split at h
      · rename_i hx
        obtain ⟨t, h1, h2, h3, h4⟩ := ih (d :: r) _ _ L c (by simp at hl ⊢; omega) h
        refine ⟨x :: t, by rw [h1]; simp, ?_, by omega, by simp at h4 ⊢; omega⟩
        have e : ordL (x :: t) = x :: ordL t := by simp [ordL, escL, hx]
        rw [e, h2, show c - i = (c - (i + 1)) + 1 by omega]
        rfl
      · rename_i hx
        have hx0 : x = 0 := by omega
        subst hx0
        split at h
        · rename_i hd
          subst hd
          simp only [Prod.mk.injEq, and_true] at h
          obtain ⟨rfl, rfl⟩ := h
          refine ⟨[], by simp, ?_, by omega, by simp⟩
          rw [show i + 2 - i = 2 by omega]
          simp [ordL, escL]
        · split at h
          · rename_i hd
            subst hd
            obtain ⟨t, h1, h2, h3, h4⟩ := ih r _ _ L c (by simp at hl ⊢; omega) h
            refine ⟨0 :: t, by rw [h1]; simp, ?_, by omega, by simp; omega⟩
            have e : ordL (0 :: t) = 0 :: 255 :: ordL t := by simp [ordL, escL]
            rw [e, h2, show c - i = (c - (i + 2)) + 1 + 1 by omega]
            rfl
          · simp at h
/-- What ReadOrdered reads, Ordered writes just so. -/
theorem ord_back {bs L : List Nat} {k P : Nat} (hk : k ≤ bs.length) (h : ordR bs k = (L, P, 0)) : ordL L = (bs.take P).drop k ∧ k < P ∧ P ≤ bs.length := by
  unfold ordR at h
  simp only [Prod.mk.injEq] at h
  obtain ⟨h1, h2, h3⟩ := h
  rw [if_pos h3] at h2
  obtain ⟨t, e1, e2, e3, e4⟩ := rord_back _ (bs.drop k) [] 0 L (rord (bs.drop k) [] 0).2.1 (Nat.le_refl _) (Prod.ext h1 (Prod.ext rfl h3))
  rw [List.nil_append] at e1
  subst e1
  rw [List.length_drop] at e4
  refine ⟨?_, by omega, by omega⟩
  rw [e2, ← h2, List.drop_take]
  simp
theorem be8_num8 (a b c d e f g h : Nat) (ha : a < 256) (hb : b < 256) (hc : c < 256) (hd : d < 256) (he : e < 256) (hf : f < 256) (hg : g < 256) (hh : h < 256) : be8 (num8 [a, b, c, d, e, f, g, h]) = [a, b, c, d, e, f, g, h] := by
  simp [be8, num8]
  omega
/-- What ReadRising reads, Rising writes just so. -/
theorem rise_back {bs : List Nat} {k V P : Nat} (hb : Bys bs) (h : riseR bs k = (V, P, 0)) : be8 V = (bs.take P).drop k ∧ k < P ∧ P ≤ bs.length ∧ V < 9223372036854775808 := by
  unfold riseR at h
  split at h
  · simp at h
  · split at h
    · simp at h
    · rename_i h1 h2
      simp only [Prod.mk.injEq, and_true] at h
      obtain ⟨rfl, rfl⟩ := h
      have hl : ((bs.drop k).take 8).length = 8 := by rw [List.length_take, List.length_drop]; omega
      have hby : Bys ((bs.drop k).take 8) := fun x hx => hb x (List.mem_of_mem_drop (List.mem_of_mem_take hx))
      have e : (bs.take (k + 8)).drop k = (bs.drop k).take 8 := by rw [List.drop_take]; congr 1; omega
      refine ⟨?_, by omega, by omega, by omega⟩
      rw [e]
      generalize (bs.drop k).take 8 = L at *
      match L, hl with
      | [a, b, c, d, e, f, g, h], _ => exact be8_num8 a b c d e f g h (hby _ (by simp)) (hby _ (by simp)) (hby _ (by simp)) (hby _ (by simp)) (hby _ (by simp)) (hby _ (by simp)) (hby _ (by simp)) (hby _ (by simp))
theorem be4_rdle (a b c d : Nat) (ha : a < 256) (hb : b < 256) (hc : c < 256) (hd : d < 256) : be4 (rdle d c b a) = [a, b, c, d] := by
  simp [be4, rdle]; omega
theorem le4_rdle (a b c d : Nat) (ha : a < 256) (hb : b < 256) (hc : c < 256) (hd : d < 256) : le4 (rdle a b c d) = [a, b, c, d] := by
  simp [le4, rdle]; omega
theorem four {l : List Nat} (h : 4 ≤ l.length) : l.take 4 = [l.getD 0 0, l.getD 1 0, l.getD 2 0, l.getD 3 0] := by
  match l, h with
  | a :: b :: c :: d :: r, _ => simp
/-- What ReadFrame reads, Frame writes just so. -/
theorem frame_back {bs L : List Nat} {k P : Nat} (hb : Bys bs) (hk : k ≤ bs.length) (h : frameR bs k = (L, P, 0)) : frameL L = (bs.take P).drop k ∧ k < P ∧ P ≤ bs.length ∧ L.length ≤ 1048576 := by
  have hbd : Bys (bs.drop k) := fun x hx => hb x (List.mem_of_mem_drop hx)
  obtain ⟨H, hH⟩ : ∃ H, H = headR (bs.drop k) := ⟨_, rfl⟩
  unfold frameR at h
  rw [← hH] at h
  obtain ⟨N, E⟩ := H
  simp only at h
  split at h
  · rename_i he; simp only [Prod.mk.injEq] at h; omega
  · rename_i he
    have hE : E = 0 := by omega
    subst hE
    split at h
    · simp at h
    · rename_i hlen
      split at h
      · simp at h
      · rename_i hsum
        simp only [Prod.mk.injEq, and_true] at h
        obtain ⟨rfl, rfl⟩ := h
        have hsum : rdle ((bs.drop (k + 8 + N)).getD 0 0) ((bs.drop (k + 8 + N)).getD 1 0) ((bs.drop (k + 8 + N)).getD 2 0) ((bs.drop (k + 8 + N)).getD 3 0) = sumL ((bs.drop (k + 8)).take N) := by
          by_cases hs : rdle ((bs.drop (k + 8 + N)).getD 0 0) ((bs.drop (k + 8 + N)).getD 1 0) ((bs.drop (k + 8 + N)).getD 2 0) ((bs.drop (k + 8 + N)).getD 3 0) = sumL ((bs.drop (k + 8)).take N)
          · exact hs
          · exact absurd hs hsum
        have hl : ((bs.drop (k + 8)).take N).length = N := by rw [List.length_take, List.length_drop]; omega
        unfold headR at hH
        rw [List.length_drop] at hH
        rw [if_neg (by omega)] at hH
        split at hH
        · simp at hH
        · rename_i hs4
          split at hH
          · simp at hH
          · rename_i hbig
            simp only [Prod.mk.injEq, and_true] at hH
            have hs4' : rdle ((bs.drop k).getD 4 0) ((bs.drop k).getD 5 0) ((bs.drop k).getD 6 0) ((bs.drop k).getD 7 0) = sumL ((bs.drop k).take 4) := by
              by_cases hs : rdle ((bs.drop k).getD 4 0) ((bs.drop k).getD 5 0) ((bs.drop k).getD 6 0) ((bs.drop k).getD 7 0) = sumL ((bs.drop k).take 4)
              · exact hs
              · exact absurd hs hs4
            have hbe : be4 N = (bs.drop k).take 4 := by
              rw [hH, four (by rw [List.length_drop]; omega)]
              exact be4_rdle _ _ _ _ (hbd.get 0) (hbd.get 1) (hbd.get 2) (hbd.get 3)
            have hle : le4 (sumL (be4 N)) = ((bs.drop k).drop 4).take 4 := by
              rw [hbe, ← hs4', four (l := (bs.drop k).drop 4) (by simp; omega), le4_rdle _ _ _ _ (hbd.get 4) (hbd.get 5) (hbd.get 6) (hbd.get 7)]
              simp
            have hle2 : le4 (sumL ((bs.drop (k + 8)).take N)) = (bs.drop (k + 8 + N)).take 4 := by
              have hb2 : Bys (bs.drop (k + 8 + N)) := fun x hx => hb x (List.mem_of_mem_drop hx)
              rw [← hsum, four (l := bs.drop (k + 8 + N)) (by rw [List.length_drop]; omega)]
              exact le4_rdle _ _ _ _ (hb2.get 0) (hb2.get 1) (hb2.get 2) (hb2.get 3)
            refine ⟨?_, by omega, by omega, by rw [hl]; omega⟩
            unfold frameL
            rw [hl, hle2, hle, hbe]
            have e : (bs.take (k + 12 + N)).drop k = (bs.drop k).take (12 + N) := by rw [List.drop_take]; congr 1; omega
            rw [e, show 12 + N = 4 + (4 + (N + 4)) by omega, List.take_add, List.take_add (i := 4) (j := N + 4), List.take_add (i := N) (j := 4)]
            simp [List.drop_drop, List.append_assoc, Nat.add_assoc]

end Go.Proofs.Ytjcpjpjccoeakaa

namespace Go.Proofs.Ytjcpjpjccoeakaa
open Go.RowKit
set_option linter.unusedVariables false

theorem one_trip (x : Nat) (pre rest : List Nat) : oneR (pre ++ ([x] ++ rest)) pre.length = (x, pre.length + 1, false) := by
  rw [oneR_in _ _ (by simp)]
  simp [List.getD]
theorem ord_at {bs pre rest l : List Nat} {k : Nat} (h : bs = pre ++ (ordL l ++ rest)) (hk : k = pre.length) : ordR bs k = (l, k + (ordL l).length, 0) := by
  subst h hk; exact ord_trip _ _ _
theorem fall_at' {bs pre rest : List Nat} {k n : Nat} (hn : n < 9223372036854775808) (h : bs = pre ++ (be8 (9223372036854775807 - n) ++ rest)) (hk : k = pre.length) : fallR bs k = (n, k + 8, 0) := by
  subst h hk; exact fall_trip n hn _ _
theorem one_at' {bs pre rest : List Nat} {k x : Nat} (h : bs = pre ++ ([x] ++ rest)) (hk : k = pre.length) : oneR bs k = (x, k + 1, false) := by
  subst h hk; exact one_trip _ _ _

/-- What a key reads as, not of a family's tombstone. -/
theorem reads_plain {D : EntD} (hc : checkS D = 0) (hk : D.kind ≠ 5) : ∃ p1 p2 p3 p4 p5 p6 p7, ordR (keyL D) 0 = (D.row, p1, 0) ∧ oneR (keyL D) p1 = (D.fam.toNat, p2, false) ∧ oneR (keyL D) p2 = (1, p3, false) ∧ ordR (keyL D) p3 = (D.qual, p4, 0) ∧ oneR (keyL D) p4 = (mark D.kind 4, p5, false) ∧ fallR (keyL D) p5 = (D.ts.toNat, p6, 0) ∧ fallR (keyL D) p6 = (D.seq.toNat, p7, 0) ∧ oneR (keyL D) p7 = (D.kind.toNat, (keyL D).length, false) := by
  obtain ⟨_, f, _, _, t, s, k, _⟩ := check_facts hc
  have e := keyL_parts D
  rw [if_neg hk] at e
  have m5 : mark D.kind 5 = 1 := by simp [mark, hk]
  rw [m5] at e
  generalize keyL D = bs at e
  have q1 := ord_at (bs := bs) (l := D.row) (k := 0) (pre := []) (rest := ([D.fam.toNat] ++ ([1] ++ (ordL D.qual ++ ([mark D.kind 4] ++ (be8 (9223372036854775807 - D.ts.toNat) ++ (be8 (9223372036854775807 - D.seq.toNat) ++ ([D.kind.toNat] ++ [])))))))) (by rw [e]; simp) (by first | (simp; done) | (simp; omega) | (simp [be8]; done) | (simp [be8]; omega))
  have q2 := one_at' (bs := bs) (x := D.fam.toNat) (k := 0 + (ordL D.row).length) (pre := ordL D.row) (rest := ([1] ++ (ordL D.qual ++ ([mark D.kind 4] ++ (be8 (9223372036854775807 - D.ts.toNat) ++ (be8 (9223372036854775807 - D.seq.toNat) ++ ([D.kind.toNat] ++ []))))))) (by rw [e]; simp) (by first | (simp; done) | (simp; omega) | (simp [be8]; done) | (simp [be8]; omega))
  have q3 := one_at' (bs := bs) (x := 1) (k := 0 + (ordL D.row).length + 1) (pre := ordL D.row ++ [D.fam.toNat]) (rest := (ordL D.qual ++ ([mark D.kind 4] ++ (be8 (9223372036854775807 - D.ts.toNat) ++ (be8 (9223372036854775807 - D.seq.toNat) ++ ([D.kind.toNat] ++ [])))))) (by rw [e]; simp) (by first | (simp; done) | (simp; omega) | (simp [be8]; done) | (simp [be8]; omega))
  have q4 := ord_at (bs := bs) (l := D.qual) (k := 0 + (ordL D.row).length + 1 + 1) (pre := ordL D.row ++ [D.fam.toNat] ++ [1]) (rest := ([mark D.kind 4] ++ (be8 (9223372036854775807 - D.ts.toNat) ++ (be8 (9223372036854775807 - D.seq.toNat) ++ ([D.kind.toNat] ++ []))))) (by rw [e]; simp) (by first | (simp; done) | (simp; omega) | (simp [be8]; done) | (simp [be8]; omega))
  have q5 := one_at' (bs := bs) (x := mark D.kind 4) (k := 0 + (ordL D.row).length + 1 + 1 + (ordL D.qual).length) (pre := ordL D.row ++ [D.fam.toNat] ++ [1] ++ ordL D.qual) (rest := (be8 (9223372036854775807 - D.ts.toNat) ++ (be8 (9223372036854775807 - D.seq.toNat) ++ ([D.kind.toNat] ++ [])))) (by rw [e]; simp) (by first | (simp; done) | (simp; omega) | (simp [be8]; done) | (simp [be8]; omega))
  have q6 := fall_at' (bs := bs) (n := D.ts.toNat) (k := 0 + (ordL D.row).length + 1 + 1 + (ordL D.qual).length + 1) (pre := ordL D.row ++ [D.fam.toNat] ++ [1] ++ ordL D.qual ++ [mark D.kind 4]) (rest := (be8 (9223372036854775807 - D.seq.toNat) ++ ([D.kind.toNat] ++ []))) (by omega) (by rw [e]; simp) (by first | (simp; done) | (simp; omega) | (simp [be8]; done) | (simp [be8]; omega))
  have q7 := fall_at' (bs := bs) (n := D.seq.toNat) (k := 0 + (ordL D.row).length + 1 + 1 + (ordL D.qual).length + 1 + 8) (pre := ordL D.row ++ [D.fam.toNat] ++ [1] ++ ordL D.qual ++ [mark D.kind 4] ++ be8 (9223372036854775807 - D.ts.toNat)) (rest := ([D.kind.toNat] ++ [])) (by omega) (by rw [e]; simp) (by first | (simp; done) | (simp; omega) | (simp [be8]; done) | (simp [be8]; omega))
  have q8 := one_at' (bs := bs) (x := D.kind.toNat) (k := 0 + (ordL D.row).length + 1 + 1 + (ordL D.qual).length + 1 + 8 + 8) (pre := ordL D.row ++ [D.fam.toNat] ++ [1] ++ ordL D.qual ++ [mark D.kind 4] ++ be8 (9223372036854775807 - D.ts.toNat) ++ be8 (9223372036854775807 - D.seq.toNat)) (rest := []) (by rw [e]; simp) (by first | (simp; done) | (simp; omega) | (simp [be8]; done) | (simp [be8]; omega))
  have l8 : 0 + (ordL D.row).length + 1 + 1 + (ordL D.qual).length + 1 + 8 + 8 + 1 = bs.length := by rw [e]; first | (simp [be8]; done) | (simp [be8]; omega)
  rw [l8] at q8
  exact ⟨_, _, _, _, _, _, _, q1, q2, q3, q4, q5, q6, q7, q8⟩
/-- Of a family's tombstone. -/
theorem reads_fam {D : EntD} (hc : checkS D = 0) (hk : D.kind = 5) : ∃ p1 p2 p3 p6 p7, ordR (keyL D) 0 = (D.row, p1, 0) ∧ oneR (keyL D) p1 = (D.fam.toNat, p2, false) ∧ oneR (keyL D) p2 = (0, p3, false) ∧ fallR (keyL D) p3 = (D.ts.toNat, p6, 0) ∧ fallR (keyL D) p6 = (D.seq.toNat, p7, 0) ∧ oneR (keyL D) p7 = (D.kind.toNat, (keyL D).length, false) := by
  obtain ⟨_, f, _, _, t, s, k, _⟩ := check_facts hc
  have e := keyL_parts D
  rw [if_pos hk] at e
  have m5 : mark D.kind 5 = 0 := by simp [mark, hk]
  rw [m5] at e
  generalize keyL D = bs at e
  have q1 := ord_at (bs := bs) (l := D.row) (k := 0) (pre := []) (rest := ([D.fam.toNat] ++ ([0] ++ (be8 (9223372036854775807 - D.ts.toNat) ++ (be8 (9223372036854775807 - D.seq.toNat) ++ ([D.kind.toNat] ++ [])))))) (by rw [e]; simp) (by first | (simp; done) | (simp; omega) | (simp [be8]; done) | (simp [be8]; omega))
  have q2 := one_at' (bs := bs) (x := D.fam.toNat) (k := 0 + (ordL D.row).length) (pre := ordL D.row) (rest := ([0] ++ (be8 (9223372036854775807 - D.ts.toNat) ++ (be8 (9223372036854775807 - D.seq.toNat) ++ ([D.kind.toNat] ++ []))))) (by rw [e]; simp) (by first | (simp; done) | (simp; omega) | (simp [be8]; done) | (simp [be8]; omega))
  have q3 := one_at' (bs := bs) (x := 0) (k := 0 + (ordL D.row).length + 1) (pre := ordL D.row ++ [D.fam.toNat]) (rest := (be8 (9223372036854775807 - D.ts.toNat) ++ (be8 (9223372036854775807 - D.seq.toNat) ++ ([D.kind.toNat] ++ [])))) (by rw [e]; simp) (by first | (simp; done) | (simp; omega) | (simp [be8]; done) | (simp [be8]; omega))
  have q6 := fall_at' (bs := bs) (n := D.ts.toNat) (k := 0 + (ordL D.row).length + 1 + 1) (pre := ordL D.row ++ [D.fam.toNat] ++ [0]) (rest := (be8 (9223372036854775807 - D.seq.toNat) ++ ([D.kind.toNat] ++ []))) (by omega) (by rw [e]; simp) (by first | (simp; done) | (simp; omega) | (simp [be8]; done) | (simp [be8]; omega))
  have q7 := fall_at' (bs := bs) (n := D.seq.toNat) (k := 0 + (ordL D.row).length + 1 + 1 + 8) (pre := ordL D.row ++ [D.fam.toNat] ++ [0] ++ be8 (9223372036854775807 - D.ts.toNat)) (rest := ([D.kind.toNat] ++ [])) (by omega) (by rw [e]; simp) (by first | (simp; done) | (simp; omega) | (simp [be8]; done) | (simp [be8]; omega))
  have q8 := one_at' (bs := bs) (x := D.kind.toNat) (k := 0 + (ordL D.row).length + 1 + 1 + 8 + 8) (pre := ordL D.row ++ [D.fam.toNat] ++ [0] ++ be8 (9223372036854775807 - D.ts.toNat) ++ be8 (9223372036854775807 - D.seq.toNat)) (rest := []) (by rw [e]; simp) (by first | (simp; done) | (simp; omega) | (simp [be8]; done) | (simp [be8]; omega))
  have l8 : 0 + (ordL D.row).length + 1 + 1 + 8 + 8 + 1 = bs.length := by rw [e]; first | (simp [be8]; done) | (simp [be8]; omega)
  rw [l8] at q8
  exact ⟨_, _, _, _, _, q1, q2, q3, q6, q7, q8⟩

theorem seg_join {bs : List Nat} {i j k : Nat} (h1 : i ≤ j) (h2 : j ≤ k) (h3 : k ≤ bs.length) : (bs.take j).drop i ++ (bs.take k).drop j = (bs.take k).drop i := by
  apply List.ext_getElem?
  intro n
  by_cases hn : n < j - i
  · rw [List.getElem?_append_left (by simp; omega)]
    rw [List.getElem?_drop, List.getElem?_drop, List.getElem?_take_of_lt (by omega), List.getElem?_take_of_lt (by omega)]
  · rw [List.getElem?_append_right (by simp; omega), List.getElem?_drop, List.getElem?_drop]
    congr 1
    simp
    omega
theorem one_back {bs : List Nat} {k x P : Nat} (hk : k ≤ bs.length) (h : oneR bs k = (x, P, false)) : [x] = (bs.take P).drop k ∧ k ≤ P ∧ P ≤ bs.length := by
  unfold oneR at h
  split at h
  · simp at h
  · simp only [Prod.mk.injEq] at h
    obtain ⟨rfl, rfl, _⟩ := h
    have hlt : k < bs.length := by omega
    refine ⟨?_, by omega, by omega⟩
    rw [List.drop_take, show k + 1 - k = 1 by omega, drop_cons bs k hlt]
    rfl
theorem fall_back {bs : List Nat} {k V P : Nat} (hb : Bys bs) (h : fallR bs k = (V, P, 0)) : be8 (9223372036854775807 - V) = (bs.take P).drop k ∧ k ≤ P ∧ P ≤ bs.length := by
  unfold fallR at h
  split at h
  · rename_i h1
    simp only [Prod.mk.injEq] at h
    exact absurd h.2.2 h1
  · rename_i h1
    simp only [Prod.mk.injEq] at h
    obtain ⟨h2, h3, _⟩ := h
    have e : riseR bs k = ((riseR bs k).1, P, 0) := by
      rw [← h3]
      ext
      · rfl
      · rfl
      · simpa using h1
    obtain ⟨r1, r2, r3, r4⟩ := rise_back hb e
    refine ⟨?_, by omega, r3⟩
    rw [← r1]
    congr 1
    omega

/-- What was read, written again. -/
theorem back_plain {bs row qual : List Nat} {p1 p2 p3 p4 p5 p6 p7 p8 fam fm cm ts sq kd : Nat} (hb : Bys bs)
    (q1 : ordR bs 0 = (row, p1, 0)) (q2 : oneR bs p1 = (fam, p2, false)) (q3 : oneR bs p2 = (fm, p3, false)) (hfm : fm ≠ 0) (q4 : ordR bs p3 = (qual, p4, 0)) (q5 : oneR bs p4 = (cm, p5, false))
    (q6 : fallR bs p5 = (ts, p6, 0)) (q7 : fallR bs p6 = (sq, p7, 0)) (q8 : oneR bs p7 = (kd, p8, false)) (m5 : fm = mark kd 5) (m4 : cm = mark kd 4) (hp : p8 = bs.length) (vr vq vv : Value) (val : List Nat) :
    keyL ⟨vr, (fam : Int), vq, (ts : Int), (sq : Int), (kd : Int), vv, row, qual, val⟩ = bs := by
  obtain ⟨r1, s1, t1⟩ := ord_back (Nat.zero_le _) q1
  obtain ⟨r2, s2, t2⟩ := one_back t1 q2
  obtain ⟨r3, s3, t3⟩ := one_back t2 q3
  obtain ⟨r4, s4, t4⟩ := ord_back t3 q4
  obtain ⟨r5, s5, t5⟩ := one_back t4 q5
  obtain ⟨r6, s6, t6⟩ := fall_back hb q6
  obtain ⟨r7, s7, t7⟩ := fall_back hb q7
  obtain ⟨r8, s8, t8⟩ := one_back t7 q8
  have hk : ¬ ((kd : Int) = 5) := by
    intro h
    apply hfm
    rw [m5]
    simp [mark, h]
  rw [keyL_parts]
  simp only [Int.toNat_natCast]
  rw [if_neg hk, ← m5, ← m4, r1, r2, r3, r4, r5, r6, r7, r8, List.append_nil, List.append_assoc]
  rw [seg_join s7 s8 t8, seg_join s6 (by omega) t8, seg_join s5 (by omega) t8, seg_join (by omega) (by omega) t8, seg_join s3 (by omega) t8, seg_join s2 (by omega) t8, seg_join (by omega) (by omega) t8]
  rw [hp]
  simp
theorem back_fam {bs row : List Nat} {p1 p2 p3 p6 p7 p8 fam ts sq kd : Nat} (hb : Bys bs)
    (q1 : ordR bs 0 = (row, p1, 0)) (q2 : oneR bs p1 = (fam, p2, false)) (q3 : oneR bs p2 = (0, p3, false))
    (q6 : fallR bs p3 = (ts, p6, 0)) (q7 : fallR bs p6 = (sq, p7, 0)) (q8 : oneR bs p7 = (kd, p8, false)) (m5 : 0 = mark kd 5) (hp : p8 = bs.length) (vr vq vv : Value) (val : List Nat) :
    keyL ⟨vr, (fam : Int), vq, (ts : Int), (sq : Int), (kd : Int), vv, row, [], val⟩ = bs := by
  obtain ⟨r1, s1, t1⟩ := ord_back (Nat.zero_le _) q1
  obtain ⟨r2, s2, t2⟩ := one_back t1 q2
  obtain ⟨r3, s3, t3⟩ := one_back t2 q3
  obtain ⟨r6, s6, t6⟩ := fall_back hb q6
  obtain ⟨r7, s7, t7⟩ := fall_back hb q7
  obtain ⟨r8, s8, t8⟩ := one_back t7 q8
  have hk : (kd : Int) = 5 := by
    by_cases h : (kd : Int) = 5
    · exact h
    · simp [mark, h] at m5
  rw [keyL_parts]
  simp only [Int.toNat_natCast]
  rw [if_pos hk, ← m5, r1, r2, r3, r6, r7, r8, List.append_nil, List.nil_append]
  rw [seg_join s7 s8 t8, seg_join s6 (by omega) t8, seg_join s3 (by omega) t8, seg_join s2 (by omega) t8, seg_join (by omega) (by omega) t8]
  rw [hp]
  simp

end Go.Proofs.Ytjcpjpjccoeakaa

namespace Go.Proofs.Ytjcpjpjccoeakaa
open Go.RowKit
set_option linter.unusedVariables false

theorem rord_ok : ∀ (m : Nat) (l acc : List Nat) (i : Nat), l.length ≤ m → Bys l → Bys acc → Bys (rord l acc i).1 ∧ (rord l acc i).1.length ≤ acc.length + l.length := by
  intro m
  induction m with
  | zero =>
    intro l acc i hl hb ha
    obtain rfl : l = [] := List.eq_nil_of_length_eq_zero (by omega)
    rw [rord_nil]
    exact ⟨fun x hx => by simp at hx, by simp⟩
  | succ m ih =>
    intro l acc i hl hb ha
    cases l with
    | nil => rw [rord_nil]; exact ⟨fun x hx => by simp at hx, by simp⟩
    | cons c r =>
      by_cases hc : c = 0
      · subst hc
        cases r with
        | nil => exact ⟨fun x hx => by simp [rord] at hx, by simp [rord]⟩
        | cons d r =>
          rw [rord_zero]
          split
          · exact ⟨ha, by simp⟩
          · split
            · obtain ⟨h1, h2⟩ := ih r (acc ++ [0]) (i + 2) (by simp at hl; omega) (fun x hx => hb x (by simp [hx])) (ha.app (fun x hx => by simp at hx; omega))
              exact ⟨h1, by simp at h2 ⊢; omega⟩
            · exact ⟨fun x hx => by simp at hx, by simp⟩
      · rw [rord_step _ _ _ _ hc]
        obtain ⟨h1, h2⟩ := ih r (acc ++ [c]) (i + 1) (by simp at hl; omega) (fun x hx => hb x (by simp [hx])) (ha.app (fun x hx => by simp at hx; subst hx; exact hb _ (by simp)))
        exact ⟨h1, by simp at h2 ⊢; omega⟩
theorem ordR_ok (bs : List Nat) (k : Nat) (hb : Bys bs) : Bys (ordR bs k).1 ∧ (ordR bs k).1.length ≤ bs.length := by
  obtain ⟨h1, h2⟩ := rord_ok _ (bs.drop k) [] 0 (Nat.le_refl _) (fun x hx => hb x (List.mem_of_mem_drop hx)) (fun x hx => by simp at hx)
  exact ⟨h1, by have : (ordR bs k).1 = (rord (bs.drop k) [] 0).1 := rfl; rw [this]; simp at h2; omega⟩

end Go.Proofs.Ytjcpjpjccoeakaa

namespace Go.Proofs.Ytjcpjpjccoeakaa
open Go.RowKit
set_option linter.unusedVariables false

/-- Some entry has this key. -/
def IsKey (bs : List Nat) : Prop := ∃ D : EntD, checkS D = 0 ∧ D.val = [] ∧ keyL D = bs
theorem checkS_eq {D : EntD} (hc : checkS D = 0) (hv : D.val = []) (a b c : Value) : checkS ⟨a, ((D.fam.toNat : Nat) : Int), b, ((D.ts.toNat : Nat) : Int), ((D.seq.toNat : Nat) : Int), ((D.kind.toNat : Nat) : Int), c, D.row, D.qual, []⟩ = 0 := by
  obtain ⟨_, f, _, _, t, s, k, _⟩ := check_facts hc
  have e : checkS ⟨a, ((D.fam.toNat : Nat) : Int), b, ((D.ts.toNat : Nat) : Int), ((D.seq.toNat : Nat) : Int), ((D.kind.toNat : Nat) : Int), c, D.row, D.qual, []⟩ = checkS D := by
    unfold checkS
    simp only [Int.toNat_of_nonneg f.1, Int.toNat_of_nonneg (show 0 ≤ D.ts by omega), Int.toNat_of_nonneg s.1, Int.toNat_of_nonneg (show 0 ≤ D.kind by omega), hv]
  rw [e, hc]

theorem mark_toNat {k : Int} (h : 0 ≤ k) (a : Int) : mark ((k.toNat : Nat) : Int) a = mark k a := by rw [Int.toNat_of_nonneg h]
/-- What ParseKey answers of any bytes. -/
def ParsedAs (w w' : World) (r : Ending) (bs : List Nat) : Prop :=
  Below w.heap.size w w' ∧
  ((∃ D : EntD, checkS D = 0 ∧ D.val = [] ∧ keyL D = bs ∧ Bys D.row ∧ Bys D.qual ∧ D.vv = .slice none 0 0 ∧ r = .returned (.tuple #[.agg D.cells, .int .i64 0]) ∧ Own w' w.heap.size D.vr D.row.length D.row ∧ ∃ B, w.heap.size ≤ B ∧ Own w' B D.vq D.qual.length D.qual ∧ ∀ k, D.vr.ownBlock = some k → k < B) ∨
   (¬ IsKey bs ∧ r = .returned (.tuple #[.agg #[.slice none 0 0, .int .i64 0, .slice none 0 0, .int .i64 0, .int .i64 0, .int .i64 0, .slice none 0 0], .int .i64 27])))

theorem parse_any {w : World} {m c : Nat} {a : Option Addr} {bs : List Nat} (hr : Rd w (.slice a m c) bs) (h47 : bs.length ≤ 140737488355328) :
    Calls Try.prog 25 #[.slice a m c] w fun e w' => ParsedAs w w' e bs := by
  have hm : m = bs.length := (rd_lens hr).1
  obtain ⟨⟨row, p1, E1⟩, q1⟩ : ∃ x, ordR bs 0 = x := ⟨_, rfl⟩
  obtain ⟨⟨fam, p2, b2⟩, q2⟩ : ∃ x, oneR bs p1 = x := ⟨_, rfl⟩
  obtain ⟨⟨fm, p3, b3⟩, q3⟩ : ∃ x, oneR bs p2 = x := ⟨_, rfl⟩
  have hbr : Bys row ∧ row.length ≤ 281474976710656 := by
    have := ordR_ok bs 0 hr.1
    rw [q1] at this
    exact ⟨this.1, by have := this.2; simp only at this; omega⟩
  by_cases hfm : fm = 0
  · subst hfm
    obtain ⟨⟨ts, p6, E6⟩, q6⟩ : ∃ x, fallR bs p3 = x := ⟨_, rfl⟩
    obtain ⟨⟨sq, p7, E7⟩, q7⟩ : ∃ x, fallR bs p6 = x := ⟨_, rfl⟩
    obtain ⟨⟨kd, p8, b8⟩, q8⟩ : ∃ x, oneR bs p7 = x := ⟨_, rfl⟩
    refine (parse_read (row := row) (qual := []) (fam := fam) (ts := ts) (sq := sq) (kd := kd) (p := p8) hr hbr ⟨by intro x hx; simp at hx, by simp⟩ (fun W g rb rd => entry_fam rb rd h47 q1 q2 q3 q6 q7 q8)).mono ?_
    rintro e w' ⟨hbad, hgood, hb⟩
    refine ⟨hb, ?_⟩
    by_cases G : (E1 = 0 ∧ b2 = false ∧ b3 = false ∧ E6 = 0 ∧ E7 = 0 ∧ b8 = false ∧ 0 = mark kd 5 ∧ 1 = mark kd 4) ∧ p8 = m ∧ checkS ⟨.slice none 0 0, fam, .slice none 0 0, ts, sq, kd, .slice none 0 0, row, [], []⟩ = 0
    · obtain ⟨vr, vq, he, o1, B, hB, o2, hlt⟩ := hgood G
      obtain ⟨⟨rfl, rfl, rfl, rfl, rfl, rfl, g7, _⟩, g9, g10⟩ := G
      refine .inl ⟨⟨vr, fam, vq, ts, sq, kd, .slice none 0 0, row, [], []⟩, g10, rfl, ?_, hbr.1, by intro x hx; simp at hx, rfl, he, o1, B, hB, o2, hlt⟩
      exact back_fam hr.1 q1 q2 q3 q6 q7 q8 g7 (by omega) _ _ _ _
    · refine .inr ⟨?_, hbad G⟩
      rintro ⟨D, hc, hv, hk⟩
      apply G
      by_cases k5 : D.kind = 5
      · obtain ⟨u1, u2, u3, u6, u7, r1, r2, r3, r6, r7, r8⟩ := reads_fam hc k5
        rw [hk] at r1 r2 r3 r6 r7 r8
        rw [q1] at r1
        simp only [Prod.mk.injEq] at r1
        obtain ⟨rfl, rfl, rfl⟩ := r1
        rw [q2] at r2
        simp only [Prod.mk.injEq] at r2
        obtain ⟨rfl, rfl, rfl⟩ := r2
        rw [q3] at r3
        simp only [Prod.mk.injEq] at r3
        obtain ⟨_, rfl, rfl⟩ := r3
        rw [q6] at r6
        simp only [Prod.mk.injEq] at r6
        obtain ⟨rfl, rfl, rfl⟩ := r6
        rw [q7] at r7
        simp only [Prod.mk.injEq] at r7
        obtain ⟨rfl, rfl, rfl⟩ := r7
        rw [q8] at r8
        simp only [Prod.mk.injEq] at r8
        obtain ⟨rfl, rfl, rfl⟩ := r8
        have hq := (check_facts hc).2.2.2.1 k5
        have hcs := checkS_eq hc hv (.slice none 0 0) (.slice none 0 0) (.slice none 0 0)
        rw [hq] at hcs
        exact ⟨⟨rfl, rfl, rfl, rfl, rfl, rfl, by simp [mark, k5], by simp [mark, k5]⟩, hm.symm, hcs⟩
      · obtain ⟨u1, u2, u3, u4, u5, u6, u7, r1, r2, r3, _⟩ := reads_plain hc k5
        rw [hk] at r1 r2 r3
        rw [q1] at r1
        simp only [Prod.mk.injEq] at r1
        obtain ⟨rfl, rfl, rfl⟩ := r1
        rw [q2] at r2
        simp only [Prod.mk.injEq] at r2
        obtain ⟨rfl, rfl, rfl⟩ := r2
        rw [q3] at r3
        simp at r3
  · obtain ⟨⟨qual, p4, E4⟩, q4⟩ : ∃ x, ordR bs p3 = x := ⟨_, rfl⟩
    obtain ⟨⟨cm, p5, b5⟩, q5⟩ : ∃ x, oneR bs p4 = x := ⟨_, rfl⟩
    obtain ⟨⟨ts, p6, E6⟩, q6⟩ : ∃ x, fallR bs p5 = x := ⟨_, rfl⟩
    obtain ⟨⟨sq, p7, E7⟩, q7⟩ : ∃ x, fallR bs p6 = x := ⟨_, rfl⟩
    obtain ⟨⟨kd, p8, b8⟩, q8⟩ : ∃ x, oneR bs p7 = x := ⟨_, rfl⟩
    have hbq : Bys qual ∧ qual.length ≤ 281474976710656 := by
      have := ordR_ok bs p3 hr.1
      rw [q4] at this
      exact ⟨this.1, by have := this.2; simp only at this; omega⟩
    refine (parse_read (row := row) (qual := qual) (fam := fam) (ts := ts) (sq := sq) (kd := kd) (p := p8) hr hbr hbq (fun W g rb rd => entry_plain rb rd h47 q1 q2 q3 hfm q4 q5 q6 q7 q8)).mono ?_
    rintro e w' ⟨hbad, hgood, hb⟩
    refine ⟨hb, ?_⟩
    by_cases G : (E1 = 0 ∧ b2 = false ∧ b3 = false ∧ E4 = 0 ∧ b5 = false ∧ E6 = 0 ∧ E7 = 0 ∧ b8 = false ∧ fm = mark kd 5 ∧ cm = mark kd 4) ∧ p8 = m ∧ checkS ⟨.slice none 0 0, fam, .slice none 0 0, ts, sq, kd, .slice none 0 0, row, qual, []⟩ = 0
    · obtain ⟨vr, vq, he, o1, B, hB, o2, hlt⟩ := hgood G
      obtain ⟨⟨rfl, rfl, rfl, rfl, rfl, rfl, rfl, rfl, g7, g8⟩, g9, g10⟩ := G
      refine .inl ⟨⟨vr, fam, vq, ts, sq, kd, .slice none 0 0, row, qual, []⟩, g10, rfl, ?_, hbr.1, hbq.1, rfl, he, o1, B, hB, o2, hlt⟩
      exact back_plain hr.1 q1 q2 q3 hfm q4 q5 q6 q7 q8 g7 g8 (by omega) _ _ _ _
    · refine .inr ⟨?_, hbad G⟩
      rintro ⟨D, hc, hv, hk⟩
      apply G
      by_cases k5 : D.kind = 5
      · obtain ⟨u1, u2, u3, u6, u7, r1, r2, r3, _⟩ := reads_fam hc k5
        rw [hk] at r1 r2 r3
        rw [q1] at r1
        simp only [Prod.mk.injEq] at r1
        obtain ⟨rfl, rfl, rfl⟩ := r1
        rw [q2] at r2
        simp only [Prod.mk.injEq] at r2
        obtain ⟨rfl, rfl, rfl⟩ := r2
        rw [q3] at r3
        simp only [Prod.mk.injEq] at r3
        exact absurd r3.1 hfm
      · obtain ⟨u1, u2, u3, u4, u5, u6, u7, r1, r2, r3, r4, r5, r6, r7, r8⟩ := reads_plain hc k5
        rw [hk] at r1 r2 r3 r4 r5 r6 r7 r8
        rw [q1] at r1
        simp only [Prod.mk.injEq] at r1
        obtain ⟨rfl, rfl, rfl⟩ := r1
        rw [q2] at r2
        simp only [Prod.mk.injEq] at r2
        obtain ⟨rfl, rfl, rfl⟩ := r2
        rw [q3] at r3
        simp only [Prod.mk.injEq] at r3
        obtain ⟨rfl, rfl, rfl⟩ := r3
        rw [q4] at r4
        simp only [Prod.mk.injEq] at r4
        obtain ⟨rfl, rfl, rfl⟩ := r4
        rw [q5] at r5
        simp only [Prod.mk.injEq] at r5
        obtain ⟨rfl, rfl, rfl⟩ := r5
        rw [q6] at r6
        simp only [Prod.mk.injEq] at r6
        obtain ⟨rfl, rfl, rfl⟩ := r6
        rw [q7] at r7
        simp only [Prod.mk.injEq] at r7
        obtain ⟨rfl, rfl, rfl⟩ := r7
        rw [q8] at r8
        simp only [Prod.mk.injEq] at r8
        obtain ⟨rfl, rfl, rfl⟩ := r8
        have hk0 : 0 ≤ D.kind := Int.le_trans (by decide) (check_facts hc).2.2.2.2.2.2.1.1
        exact ⟨⟨rfl, rfl, rfl, rfl, rfl, rfl, rfl, rfl, by rw [mark_toNat hk0]; simp [mark, k5], (mark_toNat hk0 4).symm⟩, hm.symm, checkS_eq hc hv _ _ _⟩

end Go.Proofs.Ytjcpjpjccoeakaa
