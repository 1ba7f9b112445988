import Derived.Test.YthpdlclgiggekaaTrip
import Derived.Test.YthpdlclgiggekaaReadOrdered
namespace Go.Proofs.Ythpdlclgiggekaa
open Go.RowKit
set_option linter.unusedVariables false

theorem num8_be8 (n : Nat) (h : n < 18446744073709551616) : num8 (be8 n) = n := by
  simp only [num8, be8, List.foldl]
  omega
theorem rise_trip (n : Nat) (hn : n < 9223372036854775808) (pre rest : List Nat) : riseR (pre ++ (be8 n ++ rest)) pre.length = (n, pre.length + 8, 0) := by
  have e : ((pre ++ (be8 n ++ rest)).drop pre.length).take 8 = be8 n := by
    rw [List.drop_left, List.take_append_of_le_length (by simp [be8]), List.take_of_length_le (by simp [be8])]
  unfold riseR
  rw [e, num8_be8 n (by omega), if_neg (by simp [be8]), if_neg (by omega)]
theorem fall_trip (n : Nat) (hn : n < 9223372036854775808) (pre rest : List Nat) : fallR (pre ++ (be8 (9223372036854775807 - n) ++ rest)) pre.length = (n, pre.length + 8, 0) := by
  unfold fallR
  rw [rise_trip _ (by omega)]
  simp
  omega
theorem rord_trip : ∀ (l acc rest : List Nat) (i : Nat), rord (ordL l ++ rest) acc i = (acc ++ l, i + (ordL l).length, 0) := by
  intro l
  induction l with
  | nil =>
    intro acc rest i
    show rord (0 :: 1 :: rest) acc i = _
    unfold rord
    simp [ordL, escL]
  | cons c l ih =>
    intro acc rest i
    by_cases hc : c = 0
    · have e : ordL (c :: l) = 0 :: 255 :: ordL l := by simp [ordL, escL, hc]
      rw [e]
      show rord (0 :: 255 :: (ordL l ++ rest)) acc i = _
      unfold rord
      rw [if_neg (by simp), if_neg (by simp), if_pos rfl, ih]
      simp [hc]
      omega
    · have e : ordL (c :: l) = c :: ordL l := by simp [ordL, escL, hc]
      rw [e]
      show rord (c :: (ordL l ++ rest)) acc i = _
      have h1 := ih (acc ++ [c]) rest (i + 1)
      cases hx : ordL l ++ rest with
      | nil =>
        exfalso
        simp [ordL] at hx
      | cons d r =>
        rw [hx] at h1
        unfold rord
        rw [if_pos hc, h1]
        simp
        omega
theorem ord_trip (bs pre rest : List Nat) : ordR (pre ++ (ordL bs ++ rest)) pre.length = (bs, pre.length + (ordL bs).length, 0) := by
  unfold ordR
  rw [List.drop_left, rord_trip]
  simp

end Go.Proofs.Ythpdlclgiggekaa
