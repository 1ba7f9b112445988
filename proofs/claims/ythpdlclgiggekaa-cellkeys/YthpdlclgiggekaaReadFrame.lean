import Derived.Test.YthpdlclgiggekaaFrame2
namespace Go.Proofs.Ythpdlclgiggekaa
open Go.RowKit
set_option linter.unusedVariables false

/-- What readHead answers: the length, the error. -/
def headR (bs : List Nat) : Nat × Nat :=
  if bs.length < 8 then (0, 10)
  else if rdle (bs.getD 4 0) (bs.getD 5 0) (bs.getD 6 0) (bs.getD 7 0) ≠ sumL (bs.take 4) then (0, 12)
  else if 1048576 < rdle (bs.getD 3 0) (bs.getD 2 0) (bs.getD 1 0) (bs.getD 0 0) then (0, 13)
  else (rdle (bs.getD 3 0) (bs.getD 2 0) (bs.getD 1 0) (bs.getD 0 0), 0)

theorem headR_lt (bs : List Nat) : (headR bs).1 ≤ 1048576 ∧ (headR bs).2 ≤ 13 := by
  unfold headR
  split
  · simp
  · split
    · simp
    · split
      · simp
      · exact ⟨by show rdle _ _ _ _ ≤ _; omega, by simp⟩

/-- What ReadFrame answers: the body, the place behind it, the error. -/
def frameR (bs : List Nat) (k : Nat) : List Nat × Nat × Nat :=
  if (headR (bs.drop k)).2 ≠ 0 then ([], 0, (headR (bs.drop k)).2)
  else if bs.length < k + 8 + (headR (bs.drop k)).1 + 4 then ([], 0, 10)
  else if rdle ((bs.drop (k + 8 + (headR (bs.drop k)).1)).getD 0 0) ((bs.drop (k + 8 + (headR (bs.drop k)).1)).getD 1 0) ((bs.drop (k + 8 + (headR (bs.drop k)).1)).getD 2 0) ((bs.drop (k + 8 + (headR (bs.drop k)).1)).getD 3 0) ≠ sumL ((bs.drop (k + 8)).take (headR (bs.drop k)).1) then ([], 0, 12)
  else ((bs.drop (k + 8)).take (headR (bs.drop k)).1, k + 12 + (headR (bs.drop k)).1, 0)

theorem headR_nil : headR [] = (0, 10) := rfl

end Go.Proofs.Ythpdlclgiggekaa
