import Derived.Test.YthpdlclgiggekaaBytesRW
namespace Go.Proofs.Ythpdlclgiggekaa
open Go.RowKit
set_option linter.unusedVariables false

theorem ruint_uintF : ∀ (f u i q : Nat) (rest : List Nat), i + f = 9 → u < 128 ^ (f + 1) → (0 < i → 0 < u) → q < 128 ^ i → q + u * 128 ^ i < 18446744073709551616 → ruint f (uintF f u ++ rest) i q = (q + u * 128 ^ i, i + (uintF f u).length, 0) := by
  intro f
  induction f with
  | zero =>
    intro u i q rest hi hu hp hq ht
    have hi9 : i = 9 := by omega
    subst hi9
    have hu1 : u ≤ 1 := by
      have e : (128 : Nat) ^ 9 = 9223372036854775808 := by decide
      rw [e] at ht
      omega
    show ruint 0 (u :: rest) 9 q = _
    unfold ruint
    rw [if_neg (by omega), if_neg (by omega), if_neg (by omega)]
    rw [Nat.mod_eq_of_lt (by omega)]
    rfl
  | succ f ih =>
    intro u i q rest hi hu hp hq ht
    by_cases h127 : 127 < u
    · rw [uintF_go f u h127, List.cons_append]
      unfold ruint
      rw [if_neg (by omega), if_pos (by omega)]
      have e1 : (u % 128 + 128) % 128 = u % 128 := by omega
      rw [e1]
      have e2 : q + u % 128 * 128 ^ i + u / 128 * 128 ^ (i + 1) = q + u * 128 ^ i := by
        have : u * 128 ^ i = (128 * (u / 128) + u % 128) * 128 ^ i := by rw [Nat.div_add_mod]
        rw [this, Nat.add_mul, Nat.pow_succ]
        have : u / 128 * (128 ^ i * 128) = 128 * (u / 128) * 128 ^ i := by rw [Nat.mul_comm (128 ^ i) 128, ← Nat.mul_assoc, Nat.mul_comm (u / 128) 128]
        omega
      rw [ih (u / 128) (i + 1) _ rest (by omega) (by rw [Nat.pow_succ] at hu; exact Nat.div_lt_of_lt_mul (by rw [Nat.mul_comm]; exact hu)) (by omega) (next_lt q u i hq) (by rw [e2]; exact ht), e2]
      simp
      omega
    · rw [uintF_stop (f + 1) u (by omega)]
      show ruint (f + 1) (u :: rest) i q = _
      unfold ruint
      rw [if_neg (by omega), if_neg (by omega), if_neg (by omega), Nat.mod_eq_of_lt (by omega)]
      rfl

/-- What Uint writes, ReadUint reads, wherever it stands. -/
theorem uint_trip (v : Nat) (hv : v < 18446744073709551616) (pre rest : List Nat) : uintR (pre ++ (uintL v ++ rest)) pre.length = (v, pre.length + (uintL v).length, 0) := by
  unfold uintR
  rw [List.drop_left]
  have := ruint_uintF 9 v 0 0 rest rfl (Nat.lt_of_lt_of_le hv (by decide)) (by omega) (by simp) (by simpa using hv)
  rw [uintL, this]
  simp
/-- What Bytes writes, ReadBytes reads, wherever it stands. -/
theorem bytes_trip (bs : List Nat) (hl : bs.length < 18446744073709551616) (most : Nat) (hm : bs.length ≤ most) (pre rest : List Nat) :
    bytesR (pre ++ (bytesL bs ++ rest)) pre.length most = (bs, pre.length + (bytesL bs).length, 0) := by
  unfold bytesR bytesL
  rw [List.append_assoc (uintL bs.length) bs rest, uint_trip bs.length hl pre (bs ++ rest)]
  have h1 : ¬ most < bs.length := by omega
  have h2 : ¬ (pre ++ (uintL bs.length ++ (bs ++ rest))).length < pre.length + (uintL bs.length).length + bs.length := by simp; omega
  simp only [ne_eq, not_true_eq_false, if_false, h1, h2]
  have e : pre ++ (uintL bs.length ++ (bs ++ rest)) = (pre ++ uintL bs.length) ++ (bs ++ rest) := by simp
  rw [e, show pre.length + (uintL bs.length).length = (pre ++ uintL bs.length).length by simp, List.drop_left, List.take_left]
  simp
  omega

end Go.Proofs.Ythpdlclgiggekaa
