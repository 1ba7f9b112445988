import Derived.Test.YthpdlclgiggekaaOrdered
import Derived.Test.YthpdlclgiggekaaJoin
import Derived.Deep.QuietTactic
import Derived.BigQuiet
namespace Go.Proofs.Ythpdlclgiggekaa
open Go.RowKit
set_option linter.unusedVariables false

/-- Byte by byte, a beginning ahead. -/
def ordC : List Nat → List Nat → Int
  | [], [] => 0
  | [], _ :: _ => -1
  | _ :: _, [] => 1
  | x :: a, y :: b => if x < y then -1 else if y < x then 1 else ordC a b
theorem ordC_self (a : List Nat) : ordC a a = 0 := by
  induction a with
  | nil => rfl
  | cons x a ih => simp [ordC, ih]
theorem ordC_eq : ∀ (a b : List Nat), ordC a b = 0 → a = b
  | [], [], _ => rfl
  | [], y :: b, h => by simp [ordC] at h
  | x :: a, [], h => by simp [ordC] at h
  | x :: a, y :: b, h => by
    simp only [ordC] at h
    split at h
    · simp at h
    · split at h
      · simp at h
      · rename_i h1 h2
        have : x = y := by omega
        rw [this, ordC_eq a b h]
theorem ordC_range (a b : List Nat) : ordC a b = -1 ∨ ordC a b = 0 ∨ ordC a b = 1 := by
  induction a generalizing b with
  | nil => cases b <;> simp [ordC]
  | cons x a ih =>
    cases b with
    | nil => simp [ordC]
    | cons y b =>
      simp only [ordC]
      split
      · simp
      · split
        · simp
        · exact ih b
theorem ordC_esc : ∀ (a b x y : List Nat), ordC a b ≠ 0 → ordC (escL a ++ 0 :: 1 :: x) (escL b ++ 0 :: 1 :: y) = ordC a b := by
  intro a
  induction a with
  | nil =>
    intro b x y h
    cases b with
    | nil => simp [ordC] at h
    | cons d b =>
      by_cases hd : d = 0
      · subst hd; simp [escL, ordC]
      · have : 0 < d := by omega
        simp [escL, ordC, hd, this]
  | cons c a ih =>
    intro b x y h
    cases b with
    | nil =>
      by_cases hc : c = 0
      · subst hc; simp [escL, ordC]
      · have : 0 < c := by omega
        simp [escL, ordC, hc, this]
    | cons d b =>
      simp only [ordC] at h ⊢
      by_cases hcd : c < d
      · have hd : d ≠ 0 := by omega
        by_cases hc : c = 0
        · subst hc
          simp [escL, ordC, hd, hcd]
        · simp [escL, ordC, hc, hd, hcd]
      · by_cases hdc : d < c
        · have hc : c ≠ 0 := by omega
          by_cases hd : d = 0
          · subst hd
            simp [escL, ordC, hc, hdc]
          · simp [escL, ordC, hc, hd, hdc, hcd]
        · have : c = d := by omega
          subst this
          simp only [Nat.lt_irrefl, if_false] at h ⊢
          have := ih b x y h
          by_cases hc : c = 0
          · subst hc
            simpa [escL, ordC] using this
          · simpa [escL, ordC, hc] using this
theorem ordC_ordL (a b x y : List Nat) (h : ordC a b ≠ 0) : ordC (ordL a ++ x) (ordL b ++ y) = ordC a b := by
  have := ordC_esc a b x y h
  simpa [ordL] using this
theorem ordC_ordL0 (a b : List Nat) : ordC (ordL a) (ordL b) = ordC a b := by
  by_cases h : ordC a b = 0
  · rw [ordC_eq a b h, ordC_self, ordC_self]
  · have := ordC_ordL a b [] [] h
    simpa using this
theorem ordL_free (a b : List Nat) (h : ordC a b ≠ 0) : ¬ ((ordL a).length ≤ (ordL b).length ∧ ordL a = (ordL b).take (ordL a).length) := by
  rintro ⟨_, h2⟩
  have e : ordL b = ordL a ++ (ordL b).drop (ordL a).length := by
    conv => lhs; rw [← List.take_append_drop (ordL a).length (ordL b)]
    rw [← h2]
  have := ordC_ordL a b ((ordL b).drop (ordL a).length) [] h
  rw [List.append_nil, ← e, ordC_self] at this
  exact h this.symm
theorem ordC_swap (a b : List Nat) : ordC b a = -ordC a b := by
  induction a generalizing b with
  | nil => cases b <;> simp [ordC]
  | cons x a ih =>
    cases b with
    | nil => simp [ordC]
    | cons y b =>
      simp only [ordC]
      by_cases h1 : x < y
      · simp [h1, show ¬ y < x by omega]
      · by_cases h2 : y < x
        · simp [h1, h2]
        · simp [h1, h2, ih b]
def val : List Nat → Nat
  | [] => 0
  | c :: r => c * 256 ^ r.length + val r
theorem val_lt (l : List Nat) (h : Bys l) : val l < 256 ^ l.length := by
  induction l with
  | nil => simp [val]
  | cons c r ih =>
    have h1 := ih (fun x hx => h x (by simp [hx]))
    have hc := h c (by simp)
    simp only [val, List.length_cons, Nat.pow_succ]
    have := Nat.mul_le_mul_right (256 ^ r.length) (show c ≤ 255 by omega)
    omega
theorem ordC_val : ∀ (a b : List Nat), a.length = b.length → Bys a → Bys b → ordC a b = if val a < val b then -1 else if val b < val a then 1 else 0
  | [], [], _, _, _ => by simp [ordC, val]
  | x :: a, y :: b, hl, ha, hb => by
    have hl' : a.length = b.length := by simpa using hl
    have ha' : Bys a := fun z hz => ha z (by simp [hz])
    have hb' : Bys b := fun z hz => hb z (by simp [hz])
    have la := val_lt a ha'
    have lb := val_lt b hb'
    have va : val (x :: a) = x * 256 ^ b.length + val a := by simp only [val]; rw [hl']
    have vb : val (y :: b) = y * 256 ^ b.length + val b := rfl
    rw [va, vb]
    simp only [ordC]
    rw [hl'] at la
    by_cases h1 : x < y
    · have := Nat.mul_le_mul_right (256 ^ b.length) (show x + 1 ≤ y by omega)
      rw [Nat.add_mul, Nat.one_mul] at this
      rw [if_pos h1, if_pos (by omega)]
    · by_cases h2 : y < x
      · have := Nat.mul_le_mul_right (256 ^ b.length) (show y + 1 ≤ x by omega)
        rw [Nat.add_mul, Nat.one_mul] at this
        rw [if_neg h1, if_pos h2, if_neg (by omega), if_pos (by omega)]
      · have hxy : x = y := by omega
        subst hxy
        rw [if_neg h1, if_neg h1, ordC_val a b hl' ha' hb']
        simp only [Nat.add_lt_add_iff_left]
theorem val_be8 (n : Nat) (h : n < 9223372036854775808) : val (be8 n) = n := by
  simp [val, be8]
  omega
def cmpN (m n : Nat) : Int := if m < n then -1 else if n < m then 1 else 0
theorem ordC_be8 (m n : Nat) (hm : m < 9223372036854775808) (hn : n < 9223372036854775808) : ordC (be8 m) (be8 n) = cmpN m n := by
  rw [ordC_val (be8 m) (be8 n) rfl (be8_bys m) (be8_bys n), val_be8 m hm, val_be8 n hn]
  rfl
theorem drop_cons (l : List Nat) (t : Nat) (h : t < l.length) : l.drop t = l.getD t 0 :: l.drop (t + 1) := by
  rw [List.drop_eq_getElem_cons h]; simp [List.getD, List.getElem?_eq_getElem h]

end Go.Proofs.Ythpdlclgiggekaa
