import Derived.Test.YtbfeecnhmlcfaaaDoorWritten
import Derived.Test.YtbfeecnhmlcfaaaDoorTells
namespace Go.Proofs.YtbfeecnhmlcfaaaDoor
open Go.RowKit
set_option linter.unusedVariables false

theorem ruint_nil (f i q : Nat) : ruint f [] i q = (0, 0, 10) := by cases f <;> rfl
theorem ruint_cut : ∀ (f u i q k : Nat), i + f = 9 → k < (uintF f u).length → ruint f ((uintF f u).take k) i q = (0, 0, 10) := by
  intro f
  induction f with
  | zero =>
    intro u i q k _ hk
    have : k = 0 := by simp [uintF] at hk; omega
    subst this
    exact ruint_nil _ _ _
  | succ f ih =>
    intro u i q k hif hk
    cases k with
    | zero => exact ruint_nil _ _ _
    | succ k =>
      by_cases hu : 127 < u
      · rw [uintF_go f u hu] at hk ⊢
        rw [List.take_succ_cons]
        unfold ruint
        rw [if_neg (by omega), if_pos (by omega)]
        exact ih _ _ _ _ (by omega) (by simpa using hk)
      · rw [uintF_stop (f + 1) u (by omega)] at hk
        simp at hk
theorem uint_cut (v k : Nat) (h : k < (uintL v).length) : uintR ((uintL v).take k) 0 = (0, 0, 10) := by
  unfold uintR
  rw [List.drop_zero, show ruint 9 ((uintL v).take k) 0 0 = (0, 0, 10) from ruint_cut 9 v 0 0 k rfl h]
  rfl
theorem rise_cut (n k : Nat) (h : k < 8) : riseR ((be8 n).take k) 0 = (0, 0, 10) := by
  unfold riseR
  rw [if_pos]
  rw [List.length_take]
  omega
theorem fall_cut (n k : Nat) (h : k < 8) : fallR ((be8 n).take k) 0 = (0, 0, 10) := by
  unfold fallR
  rw [rise_cut n k h]
  rfl
theorem bytes_cut (bs : List Nat) (hl : bs.length < 18446744073709551616) (k : Nat) (h : k < (bytesL bs).length) : bytesR ((bytesL bs).take k) 0 bs.length = ([], 0, 10) := by
  by_cases hk : k < (uintL bs.length).length
  · have e : (bytesL bs).take k = (uintL bs.length).take k := by unfold bytesL; exact List.take_append_of_le_length (by omega)
    unfold bytesR
    rw [e, uint_cut _ _ hk]
    rfl
  · have e : (bytesL bs).take k = [] ++ (uintL bs.length ++ bs.take (k - (uintL bs.length).length)) := by
      unfold bytesL
      rw [List.take_append, List.take_of_length_le (by omega), List.nil_append]
    have ht := uint_trip bs.length hl [] (bs.take (k - (uintL bs.length).length))
    rw [← e] at ht
    unfold bytesR
    rw [show ([] : List Nat).length = 0 from rfl] at ht
    rw [ht]
    have h1 : ((bytesL bs).take k).length = k := by rw [List.length_take]; omega
    have h2 : (bytesL bs).length = (uintL bs.length).length + bs.length := by unfold bytesL; simp
    rw [if_neg (by simp), if_neg (by simp), if_pos (by simp only []; omega)]
theorem rord_cut : ∀ (l acc : List Nat) (i k : Nat), k < (ordL l).length → rord ((ordL l).take k) acc i = ([], 0, 10) := by
  intro l
  induction l with
  | nil =>
    intro acc i k hk
    have hk2 : k < 2 := by simpa [ordL, escL] using hk
    match k, hk2 with
    | 0, _ => rfl
    | 1, _ => rfl
  | cons c l ih =>
    intro acc i k hk
    by_cases hc : c = 0
    · have e : ordL (c :: l) = 0 :: 255 :: ordL l := by simp [ordL, escL, hc]
      rw [e] at hk ⊢
      match k, hk with
      | 0, _ => rfl
      | 1, _ => rfl
      | k + 2, hk =>
        rw [List.take_succ_cons, List.take_succ_cons]
        unfold rord
        rw [if_neg (by simp), if_neg (by simp), if_pos rfl]
        exact ih _ _ _ (by simpa using hk)
    · have e : ordL (c :: l) = c :: ordL l := by simp [ordL, escL, hc]
      rw [e] at hk ⊢
      match k, hk with
      | 0, _ => rfl
      | k + 1, hk =>
        rw [List.take_succ_cons]
        have hi := fun acc i => ih acc i k (by simpa using hk)
        cases hx : (ordL l).take k with
        | nil => rfl
        | cons d r =>
          rw [hx] at hi
          unfold rord
          rw [if_pos hc]
          exact hi _ _
theorem ord_cut (bs : List Nat) (k : Nat) (h : k < (ordL bs).length) : ordR ((ordL bs).take k) 0 = ([], 0, 10) := by
  unfold ordR
  rw [List.drop_zero, rord_cut bs [] 0 k h]
  rfl
theorem frame_cut (bs : List Nat) (hl : bs.length ≤ 1048576) (k : Nat) (h : k < (frameL bs).length) : frameR ((frameL bs).take k) 0 = ([], 0, 10) := by
  have hk : ((frameL bs).take k).length = k := by rw [List.length_take]; omega
  have hfl : (frameL bs).length = bs.length + 12 := by simp [frameL, be4, le4]
  by_cases h8 : k < 8
  · have hh : headR (((frameL bs).take k).drop 0) = (0, 10) := by
      rw [List.drop_zero]; unfold headR; rw [if_pos (by omega)]
    unfold frameR
    rw [hh]
    rfl
  · have e : (frameL bs).take k = headL bs.length ++ (bs ++ le4 (sumL bs)).take (k - 8) := by
      have : frameL bs = headL bs.length ++ (bs ++ le4 (sumL bs)) := by simp [frameL, headL]
      rw [this, List.take_append, List.take_of_length_le (by simp [headL, be4, le4]; omega)]
      simp [headL, be4, le4]
    have hh : headR (((frameL bs).take k).drop 0) = (bs.length, 0) := by
      rw [List.drop_zero, e]; exact good_head _ hl _
    unfold frameR
    rw [hh]
    rw [if_neg (by simp), if_pos (by simp only []; omega)]

end Go.Proofs.YtbfeecnhmlcfaaaDoor
