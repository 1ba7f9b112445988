import Derived.Test.YthpdlclgiggekaaTrip
import Derived.Test.YthpdlclgiggekaaReadOrdered
namespace Go.Proofs.Ythpdlclgiggekaa
open Go.RowKit
set_option linter.unusedVariables false

theorem ruint_back : ∀ (f : Nat) (l : List Nat) (i v V c : Nat), ruint f l i v = (V, c, 0) → i + f = 9 → Bys l → ∃ u, V = v + u * 128 ^ i ∧ uintF f u = l.take (c - i) ∧ (0 < i → 0 < u) ∧ i < c := by
  intro f
  induction f with
  | zero =>
    intro l i v V c h hi hb
    cases l with
    | nil => simp [ruint] at h
    | cons x r =>
      unfold ruint at h
      split at h
      · simp at h
      · split at h
        · simp at h
        · split at h
          · simp at h
          · rename_i h1 h2 h3
            simp only [Prod.mk.injEq, and_true] at h
            obtain ⟨rfl, rfl⟩ := h
            refine ⟨x, by rw [Nat.mod_eq_of_lt (by omega)], ?_, fun hp => by omega, by omega⟩
            simp [uintF]
  | succ f ih =>
    intro l i v V c h hi hb
    cases l with
    | nil => simp [ruint] at h
    | cons x r =>
      have hx := hb x (by simp)
      unfold ruint at h
      split at h
      · simp at h
      · split at h
        · rename_i h1 h2
          obtain ⟨u, hu1, hu2, hu3, hu4⟩ := ih r (i + 1) _ V c h (by omega) (fun y hy => hb y (by simp [hy]))
          have hu0 := hu3 (by omega)
          refine ⟨x % 128 + 128 * u, ?_, ?_, fun _ => by omega, by omega⟩
          · rw [hu1, Nat.pow_succ, Nat.add_mul]
            have : u * (128 ^ i * 128) = 128 * u * 128 ^ i := by rw [Nat.mul_comm (128 ^ i) 128, ← Nat.mul_assoc, Nat.mul_comm u 128]
            omega
          · rw [uintF_go f _ (by omega)]
            have e1 : (x % 128 + 128 * u) % 128 + 128 = x := by omega
            have e2 : (x % 128 + 128 * u) / 128 = u := by omega
            rw [e1, e2, hu2, show c - i = (c - (i + 1)) + 1 by omega]
            rfl
        · split at h
          · simp at h
          · rename_i h1 h2 h3
            simp only [Prod.mk.injEq, and_true] at h
            obtain ⟨rfl, rfl⟩ := h
            refine ⟨x, by rw [Nat.mod_eq_of_lt (by omega)], ?_, fun hp => by omega, by omega⟩
            rw [uintF_stop (f + 1) x (by omega)]
            simp
/-- What ReadUint reads, Uint writes just so. -/
theorem uint_back {bs : List Nat} {k V P : Nat} (hb : Bys bs) (h : uintR bs k = (V, P, 0)) : uintL V = (bs.take P).drop k := by
  unfold uintR at h
  simp only [Prod.mk.injEq] at h
  obtain ⟨h1, h2, h3⟩ := h
  rw [if_pos h3] at h2
  obtain ⟨u, hu1, hu2, _, _⟩ := ruint_back 9 (bs.drop k) 0 0 V (ruint 9 (bs.drop k) 0 0).2.1 (Prod.ext h1 (Prod.ext rfl h3)) rfl (fun x hx => hb x (List.mem_of_mem_drop hx))
  have : u = V := by simpa using hu1.symm
  subst this
  unfold uintL
  rw [hu2, ← h2, List.drop_take]
  simp
/-- What ReadBytes reads, Bytes writes just so. -/
theorem bytes_back {bs L : List Nat} {k P most : Nat} (hb : Bys bs) (hk : k ≤ bs.length) (h : bytesR bs k most = (L, P, 0)) : bytesL L = (bs.take P).drop k ∧ k < P ∧ P ≤ bs.length ∧ L.length ≤ bs.length := by
  unfold bytesR at h
  obtain ⟨R, hR⟩ : ∃ R, R = uintR bs k := ⟨_, rfl⟩
  rw [← hR] at h
  obtain ⟨V, p, E⟩ := R
  simp only at h
  split at h
  · rename_i he; simp only [Prod.mk.injEq] at h; omega
  · rename_i he
    have hE : E = 0 := by omega
    subst hE
    split at h
    · simp at h
    · split at h
      · simp at h
      · rename_i h1 h2
        simp only [Prod.mk.injEq, and_true] at h
        obtain ⟨rfl, rfl⟩ := h
        obtain ⟨hkp, hpn, hV⟩ := uintR_ok hR.symm hk
        have hu := uint_back hb hR.symm
        have hl : ((bs.drop p).take V).length = V := by rw [List.length_take, List.length_drop]; omega
        refine ⟨?_, by omega, by omega, by rw [hl]; omega⟩
        unfold bytesL
        rw [hl, hu]
        have e : bs.take (p + V) = bs.take p ++ (bs.drop p).take V := by rw [List.take_add]
        rw [e, List.drop_append_of_le_length (by rw [List.length_take]; omega)]
theorem rord_back : ∀ (m : Nat) (l acc : List Nat) (i : Nat) (L : List Nat) (c : Nat), l.length ≤ m → rord l acc i = (L, c, 0) → ∃ t, L = acc ++ t ∧ ordL t = l.take (c - i) ∧ i < c ∧ c ≤ i + l.length := by
  intro m
  induction m with
  | zero =>
    intro l acc i L c hl h
    have : l = [] := List.eq_nil_of_length_eq_zero (by omega)
    subst this
    simp [rord] at h
  | succ m ih =>
    intro l acc i L c hl h
    match l, hl, h with
    | [], _, h => simp [rord] at h
    | [x], _, h => simp [rord] at h
    | x :: d :: r, hl, h =>
      unfold rord at h
      split at h
      · rename_i hx
        obtain ⟨t, h1, h2, h3, h4⟩ := ih (d :: r) _ _ L c (by simp at hl ⊢; omega) h
        refine ⟨x :: t, by rw [h1]; simp, ?_, by omega, by simp at h4 ⊢; omega⟩
        have e : ordL (x :: t) = x :: ordL t := by simp [ordL, escL, hx]
        rw [e, h2, show c - i = (c - (i + 1)) + 1 by omega]
        rfl
      · rename_i hx
        have hx0 : x = 0 := by omega
        subst hx0
        split at h
        · rename_i hd
          subst hd
          simp only [Prod.mk.injEq, and_true] at h
          obtain ⟨rfl, rfl⟩ := h
          refine ⟨[], by simp, ?_, by omega, by simp⟩
          rw [show i + 2 - i = 2 by omega]
          simp [ordL, escL]
        · split at h
          · rename_i hd
            subst hd
            obtain ⟨t, h1, h2, h3, h4⟩ := ih r _ _ L c (by simp at hl ⊢; omega) h
            refine ⟨0 :: t, by rw [h1]; simp, ?_, by omega, by simp; omega⟩
            have e : ordL (0 :: t) = 0 :: 255 :: ordL t := by simp [ordL, escL]
            rw [e, h2, show c - i = (c - (i + 2)) + 1 + 1 by omega]
            rfl
          · simp at h
/-- What ReadOrdered reads, Ordered writes just so. -/
theorem ord_back {bs L : List Nat} {k P : Nat} (hk : k ≤ bs.length) (h : ordR bs k = (L, P, 0)) : ordL L = (bs.take P).drop k ∧ k < P ∧ P ≤ bs.length := by
  unfold ordR at h
  simp only [Prod.mk.injEq] at h
  obtain ⟨h1, h2, h3⟩ := h
  rw [if_pos h3] at h2
  obtain ⟨t, e1, e2, e3, e4⟩ := rord_back _ (bs.drop k) [] 0 L (rord (bs.drop k) [] 0).2.1 (Nat.le_refl _) (Prod.ext h1 (Prod.ext rfl h3))
  rw [List.nil_append] at e1
  subst e1
  rw [List.length_drop] at e4
  refine ⟨?_, by omega, by omega⟩
  rw [e2, ← h2, List.drop_take]
  simp
theorem be8_num8 (a b c d e f g h : Nat) (ha : a < 256) (hb : b < 256) (hc : c < 256) (hd : d < 256) (he : e < 256) (hf : f < 256) (hg : g < 256) (hh : h < 256) : be8 (num8 [a, b, c, d, e, f, g, h]) = [a, b, c, d, e, f, g, h] := by
  simp [be8, num8]
  omega
/-- What ReadRising reads, Rising writes just so. -/
theorem rise_back {bs : List Nat} {k V P : Nat} (hb : Bys bs) (h : riseR bs k = (V, P, 0)) : be8 V = (bs.take P).drop k ∧ k < P ∧ P ≤ bs.length ∧ V < 9223372036854775808 := by
  unfold riseR at h
  split at h
  · simp at h
  · split at h
    · simp at h
    · rename_i h1 h2
      simp only [Prod.mk.injEq, and_true] at h
      obtain ⟨rfl, rfl⟩ := h
      have hl : ((bs.drop k).take 8).length = 8 := by rw [List.length_take, List.length_drop]; omega
      have hby : Bys ((bs.drop k).take 8) := fun x hx => hb x (List.mem_of_mem_drop (List.mem_of_mem_take hx))
      have e : (bs.take (k + 8)).drop k = (bs.drop k).take 8 := by rw [List.drop_take]; congr 1; omega
      refine ⟨?_, by omega, by omega, by omega⟩
      rw [e]
      generalize (bs.drop k).take 8 = L at *
      match L, hl with
      | [a, b, c, d, e, f, g, h], _ => exact be8_num8 a b c d e f g h (hby _ (by simp)) (hby _ (by simp)) (hby _ (by simp)) (hby _ (by simp)) (hby _ (by simp)) (hby _ (by simp)) (hby _ (by simp)) (hby _ (by simp))
theorem be4_rdle (a b c d : Nat) (ha : a < 256) (hb : b < 256) (hc : c < 256) (hd : d < 256) : be4 (rdle d c b a) = [a, b, c, d] := by
  simp [be4, rdle]; omega
theorem le4_rdle (a b c d : Nat) (ha : a < 256) (hb : b < 256) (hc : c < 256) (hd : d < 256) : le4 (rdle a b c d) = [a, b, c, d] := by
  simp [le4, rdle]; omega
theorem four {l : List Nat} (h : 4 ≤ l.length) : l.take 4 = [l.getD 0 0, l.getD 1 0, l.getD 2 0, l.getD 3 0] := by
  match l, h with
  | a :: b :: c :: d :: r, _ => simp
/-- What ReadFrame reads, Frame writes just so. -/
theorem frame_back {bs L : List Nat} {k P : Nat} (hb : Bys bs) (hk : k ≤ bs.length) (h : frameR bs k = (L, P, 0)) : frameL L = (bs.take P).drop k ∧ k < P ∧ P ≤ bs.length ∧ L.length ≤ 1048576 := by
  have hbd : Bys (bs.drop k) := fun x hx => hb x (List.mem_of_mem_drop hx)
  obtain ⟨H, hH⟩ : ∃ H, H = headR (bs.drop k) := ⟨_, rfl⟩
  unfold frameR at h
  rw [← hH] at h
  obtain ⟨N, E⟩ := H
  simp only at h
  split at h
  · rename_i he; simp only [Prod.mk.injEq] at h; omega
  · rename_i he
    have hE : E = 0 := by omega
    subst hE
    split at h
    · simp at h
    · rename_i hlen
      split at h
      · simp at h
      · rename_i hsum
        simp only [Prod.mk.injEq, and_true] at h
        obtain ⟨rfl, rfl⟩ := h
        have hsum : rdle ((bs.drop (k + 8 + N)).getD 0 0) ((bs.drop (k + 8 + N)).getD 1 0) ((bs.drop (k + 8 + N)).getD 2 0) ((bs.drop (k + 8 + N)).getD 3 0) = sumL ((bs.drop (k + 8)).take N) := by
          by_cases hs : rdle ((bs.drop (k + 8 + N)).getD 0 0) ((bs.drop (k + 8 + N)).getD 1 0) ((bs.drop (k + 8 + N)).getD 2 0) ((bs.drop (k + 8 + N)).getD 3 0) = sumL ((bs.drop (k + 8)).take N)
          · exact hs
          · exact absurd hs hsum
        have hl : ((bs.drop (k + 8)).take N).length = N := by rw [List.length_take, List.length_drop]; omega
        unfold headR at hH
        rw [List.length_drop] at hH
        rw [if_neg (by omega)] at hH
        split at hH
        · simp at hH
        · rename_i hs4
          split at hH
          · simp at hH
          · rename_i hbig
            simp only [Prod.mk.injEq, and_true] at hH
            have hs4' : rdle ((bs.drop k).getD 4 0) ((bs.drop k).getD 5 0) ((bs.drop k).getD 6 0) ((bs.drop k).getD 7 0) = sumL ((bs.drop k).take 4) := by
              by_cases hs : rdle ((bs.drop k).getD 4 0) ((bs.drop k).getD 5 0) ((bs.drop k).getD 6 0) ((bs.drop k).getD 7 0) = sumL ((bs.drop k).take 4)
              · exact hs
              · exact absurd hs hs4
            have hbe : be4 N = (bs.drop k).take 4 := by
              rw [hH, four (by rw [List.length_drop]; omega)]
              exact be4_rdle _ _ _ _ (hbd.get 0) (hbd.get 1) (hbd.get 2) (hbd.get 3)
            have hle : le4 (sumL (be4 N)) = ((bs.drop k).drop 4).take 4 := by
              rw [hbe, ← hs4', four (l := (bs.drop k).drop 4) (by simp; omega), le4_rdle _ _ _ _ (hbd.get 4) (hbd.get 5) (hbd.get 6) (hbd.get 7)]
              simp
            have hle2 : le4 (sumL ((bs.drop (k + 8)).take N)) = (bs.drop (k + 8 + N)).take 4 := by
              have hb2 : Bys (bs.drop (k + 8 + N)) := fun x hx => hb x (List.mem_of_mem_drop hx)
              rw [← hsum, four (l := bs.drop (k + 8 + N)) (by rw [List.length_drop]; omega)]
              exact le4_rdle _ _ _ _ (hb2.get 0) (hb2.get 1) (hb2.get 2) (hb2.get 3)
            refine ⟨?_, by omega, by omega, by rw [hl]; omega⟩
            unfold frameL
            rw [hl, hle2, hle, hbe]
            have e : (bs.take (k + 12 + N)).drop k = (bs.drop k).take (12 + N) := by rw [List.drop_take]; congr 1; omega
            rw [e, show 12 + N = 4 + (4 + (N + 4)) by omega, List.take_add, List.take_add (i := 4) (j := N + 4), List.take_add (i := N) (j := 4)]
            simp [List.drop_drop, List.append_assoc, Nat.add_assoc]

end Go.Proofs.Ythpdlclgiggekaa
