import Derived.Test.YtncbiohmogmcpaaDoorPlain
namespace Go.Proofs.YtncbiohmogmcpaaDoor
open Go.RowKit
set_option linter.unusedVariables false

/-- One bit's step. -/
def T (s : Nat) : Nat := (s / 2) ^^^ (if s % 2 = 1 then 2197175160 else 0)
def Tn : Nat → Nat → Nat
  | 0, s => s
  | n + 1, s => Tn n (T s)

theorem xor_div2 (a b : Nat) : (a ^^^ b) / 2 = (a / 2) ^^^ (b / 2) := by
  have := Nat.shiftRight_xor_distrib (a := a) (b := b) (i := 1)
  simpa [Nat.shiftRight_eq_div_pow] using this
theorem xor_mod2 (a b : Nat) : (a ^^^ b) % 2 = (a % 2) ^^^ (b % 2) := by
  have h := Nat.xor_mod_two_pow (a := a) (b := b) (n := 1)
  simpa using h
theorem T_xor (a b : Nat) : T (a ^^^ b) = T a ^^^ T b := by
  unfold T
  rw [xor_div2, xor_mod2]
  have ha : a % 2 = 0 ∨ a % 2 = 1 := by omega
  have hb : b % 2 = 0 ∨ b % 2 = 1 := by omega
  rcases ha with ha | ha <;> rcases hb with hb | hb <;> simp [ha, hb]
  · rw [Nat.xor_assoc]
  · rw [Nat.xor_assoc, Nat.xor_assoc, Nat.xor_comm (b / 2)]
  · rw [Nat.xor_comm (b / 2) 2197175160, ← Nat.xor_assoc, Nat.xor_assoc (a / 2), Nat.xor_self, Nat.xor_zero]
theorem Tn_xor (n a b : Nat) : Tn n (a ^^^ b) = Tn n a ^^^ Tn n b := by
  induction n generalizing a b with
  | zero => rfl
  | succ n ih => simp only [Tn]; rw [T_xor, ih]
theorem Tn_add (m n s : Nat) : Tn (m + n) s = Tn m (Tn n s) := by
  induction n generalizing s with
  | zero => rfl
  | succ n ih => rw [Nat.add_succ]; simp only [Tn]; exact ih (T s)
theorem T_lt (s : Nat) (h : s < 4294967296) : T s < 4294967296 := by
  unfold T
  have h1 : s / 2 < 2 ^ 32 := by omega
  exact Nat.xor_lt_two_pow h1 (by split <;> omega)
theorem Tn_lt (n s : Nat) (h : s < 4294967296) : Tn n s < 4294967296 := by
  induction n generalizing s with
  | zero => exact h
  | succ n ih => exact ih _ (T_lt s h)
theorem xor_zero {a b : Nat} (h : a ^^^ b = 0) : a = b := by
  have h2 : (a ^^^ b) ^^^ b = 0 ^^^ b := by rw [h]
  rwa [Nat.xor_assoc, Nat.xor_self, Nat.xor_zero, Nat.zero_xor] at h2
theorem T_zero : T 0 = 0 := rfl
theorem Tn_zero (n : Nat) : Tn n 0 = 0 := by
  induction n with
  | zero => rfl
  | succ n ih => simp only [Tn, T_zero]; exact ih
theorem T_ne (s : Nat) (h : s < 4294967296) (h0 : s ≠ 0) : T s ≠ 0 := by
  unfold T
  by_cases ho : s % 2 = 1
  · rw [if_pos ho]
    intro hz
    have e := xor_zero hz
    omega
  · rw [if_neg ho, Nat.xor_zero]
    omega
theorem Tn_ne (n s : Nat) (h : s < 4294967296) (h0 : s ≠ 0) : Tn n s ≠ 0 := by
  induction n generalizing s with
  | zero => exact h0
  | succ n ih => exact ih _ (T_lt s h) (T_ne s h h0)
theorem Tn_inj (n a b : Nat) (ha : a < 4294967296) (hb : b < 4294967296) (h : Tn n a = Tn n b) : a = b := by
  by_cases hab : a = b
  · exact hab
  · have hx : a ^^^ b ≠ 0 := fun e => hab (xor_zero e)
    have := Tn_ne n (a ^^^ b) (Nat.xor_lt_two_pow (n := 32) ha hb) hx
    rw [Tn_xor, h, Nat.xor_self] at this
    exact absurd rfl this

theorem T_two (q : Nat) : T (2 * q) = q := by unfold T; rw [if_neg (by omega), Nat.xor_zero]; omega
theorem half_eq (r : Nat) : half r = Tn 4 r := by
  have hr : r = (16 * (r / 16)) ^^^ (r % 16) := by
    have h1 := nat_join 4 (16 * (r / 16)) (r % 16) (by omega) (by omega)
    have h2 : (16 * (r / 16)) ^^^ (r % 16) = (16 * (r / 16)) ||| (r % 16) := by
      apply Nat.eq_of_testBit_eq
      intro i
      rw [Nat.testBit_xor, Nat.testBit_or]
      by_cases hi : i < 4
      · have : (16 * (r / 16)).testBit i = false := by
          rw [show 16 * (r / 16) = 2 ^ 4 * (r / 16) by omega, Nat.testBit_two_pow_mul]
          simp; omega
        simp [this]
      · have : (r % 16).testBit i = false := Nat.testBit_lt_two_pow (Nat.lt_of_lt_of_le (show r % 16 < 2 ^ 4 by omega) (Nat.pow_le_pow_right (by omega) (by omega)))
        simp [this]
    rw [h2, h1]; omega
  have h16 : Tn 4 (16 * (r / 16)) = r / 16 := by
    simp only [Tn]
    rw [show 16 * (r / 16) = 2 * (2 * (2 * (2 * (r / 16)))) by omega, T_two, T_two, T_two, T_two]
  have ht : ∀ i, i < 16 → Tn 4 i = tab.getD i 0 := by decide
  conv => rhs; rw [hr, Tn_xor, h16, ht (r % 16) (by omega)]
  rfl
theorem crcB_eq (r c : Nat) : crcB r c = Tn 8 (r ^^^ c) := by
  unfold crcB
  rw [half_eq, half_eq, ← Tn_add]
theorem crcB_xor (r s c d : Nat) : crcB (r ^^^ s) (c ^^^ d) = crcB r c ^^^ crcB s d := by
  rw [crcB_eq, crcB_eq, crcB_eq, ← Tn_xor]
  congr 1
  rw [Nat.xor_assoc, ← Nat.xor_assoc s c d, Nat.xor_comm s c, Nat.xor_assoc c s d, ← Nat.xor_assoc]
/-- Errors: the bytes, changed. -/
def xorL (a b : List Nat) : List Nat := List.zipWith (· ^^^ ·) a b
theorem crcL_xor : ∀ (a b : List Nat) (r s : Nat), a.length = b.length → crcL (r ^^^ s) (xorL a b) = crcL r a ^^^ crcL s b
  | [], [], r, s, _ => rfl
  | x :: a, y :: b, r, s, h => by
    show crcL (crcB (r ^^^ s) (x ^^^ y)) (xorL a b) = crcL (crcB r x) a ^^^ crcL (crcB s y) b
    rw [crcB_xor]
    exact crcL_xor a b _ _ (by simpa using h)

/-- What the errors of a string of bytes come to. -/
def errF (e : List Nat) : Nat := crcL 0 e
theorem errF_append (a b : List Nat) : errF (a ++ b) = crcL (errF a) b := by simp [errF, crcL, List.foldl_append]

theorem xor_eq_add (i q y : Nat) (hy : y < 2 ^ i) : (2 ^ i * q) ^^^ y = 2 ^ i * q + y := by
  have h1 := nat_join i (2 ^ i * q) y (by simp) hy
  have h2 : (2 ^ i * q) ^^^ y = (2 ^ i * q) ||| y := by
    apply Nat.eq_of_testBit_eq
    intro j
    rw [Nat.testBit_xor, Nat.testBit_or]
    by_cases hj : j < i
    · have : (2 ^ i * q).testBit j = false := by rw [Nat.testBit_two_pow_mul]; simp; omega
      simp [this]
    · have : y.testBit j = false := Nat.testBit_lt_two_pow (Nat.lt_of_lt_of_le hy (Nat.pow_le_pow_right (by omega) (by omega)))
      simp [this]
  rw [h2, h1]
theorem rdle_xor (a b c d : Nat) (ha : a < 256) (hb : b < 256) (hc : c < 256) : rdle a b c d = (16777216 * d) ^^^ ((65536 * c) ^^^ ((256 * b) ^^^ a)) := by
  have h1 := xor_eq_add 8 b a (by omega)
  have h2 := xor_eq_add 16 c (256 * b + a) (by omega)
  have h3 := xor_eq_add 24 d (65536 * c + (256 * b + a)) (by omega)
  simp only [show (2 : Nat) ^ 8 = 256 from rfl, show (2 : Nat) ^ 16 = 65536 from rfl, show (2 : Nat) ^ 24 = 16777216 from rfl] at h1 h2 h3
  rw [h1, h2, h3]
  unfold rdle; omega
theorem Tn_mul (i q : Nat) : Tn i (2 ^ i * q) = q := by
  induction i generalizing q with
  | zero => simp [Tn]
  | succ i ih =>
    simp only [Tn]
    rw [show 2 ^ (i + 1) * q = 2 * (2 ^ i * q) by rw [Nat.pow_succ]; rw [Nat.mul_comm (2 ^ i) 2, Nat.mul_assoc], T_two]
    exact ih q
theorem Tn_byte (n r c : Nat) : Tn 8 (Tn n r ^^^ c) = Tn (8 + n) (r ^^^ (2 ^ n * c)) := by
  rw [Tn_add, Tn_xor n, Tn_mul]
/-- Four bytes behind a state. -/
theorem crcL_four (r a b c d : Nat) (ha : a < 256) (hb : b < 256) (hc : c < 256) : crcL r [a, b, c, d] = Tn 32 (r ^^^ rdle a b c d) := by
  show crcB (crcB (crcB (crcB r a) b) c) d = _
  rw [crcB_eq, crcB_eq, crcB_eq, crcB_eq, Tn_byte 8 (r ^^^ a) b]
  have e2 := Tn_byte 16 (r ^^^ a ^^^ 2 ^ 8 * b) c
  have e3 := Tn_byte 24 (r ^^^ a ^^^ 2 ^ 8 * b ^^^ 2 ^ 16 * c) d
  rw [show (8 + 8 : Nat) = 16 from rfl, e2, show (8 + 16 : Nat) = 24 from rfl, e3, rdle_xor a b c d ha hb hc]
  show Tn 32 _ = Tn 32 _
  congr 1
  simp only [show (2 : Nat) ^ 8 = 256 from rfl, show (2 : Nat) ^ 16 = 65536 from rfl, show (2 : Nat) ^ 24 = 16777216 from rfl]
  rw [Nat.xor_assoc, Nat.xor_assoc, Nat.xor_assoc]
  congr 1
  rw [Nat.xor_comm (16777216 * d), Nat.xor_comm (65536 * c) (256 * b ^^^ a), Nat.xor_comm (256 * b) a]
  simp only [Nat.xor_assoc]
theorem not_xor (x y : Nat) (hx : x < 4294967296) (hy : y < 4294967296) : 4294967295 - (x ^^^ y) = (4294967295 - x) ^^^ y := by
  have nt : ∀ r, r < 4294967296 → 4294967295 ^^^ r = 4294967295 - r := by
    intro r h
    apply Nat.eq_of_testBit_eq
    intro i
    rw [Nat.testBit_xor]
    have h1 : Nat.testBit 4294967295 i = decide (i < 32) := Nat.testBit_two_pow_sub_one 32 i
    have h2 : Nat.testBit (4294967295 - r) i = (decide (i < 32) && !Nat.testBit r i) := by
      have := Nat.testBit_two_pow_sub_succ (x := r) (n := 32) h i
      rw [show (4294967295 - r) = 2 ^ 32 - (r + 1) by omega]
      exact this
    rw [h1, h2]
    by_cases hi : i < 32
    · simp [hi]
    · have h3 : Nat.testBit r i = false := Nat.testBit_lt_two_pow (Nat.lt_of_lt_of_le h (Nat.pow_le_pow_right (n := 2) (i := 32) (j := i) (by omega) (by omega)))
      simp [hi, h3]
  rw [← nt _ (Nat.xor_lt_two_pow (n := 32) hx hy), ← nt x hx, Nat.xor_assoc]

/-- A sum does not fit bytes that were changed, if what the changes come to is not nothing. -/
theorem detect (data e1 : List Nat) (hd : ∀ x ∈ data, x < 256) (he : ∀ x ∈ e1, x < 256) (hl : data.length = e1.length) (s0 s1 s2 s3 f0 f1 f2 f3 : Nat)
    (hs0 : s0 < 256) (hs1 : s1 < 256) (hs2 : s2 < 256) (hf0 : f0 < 256) (hf1 : f1 < 256) (hf2 : f2 < 256) (hs3 : s3 < 256) (hf3 : f3 < 256)
    (hsum : rdle s0 s1 s2 s3 = sumL data) (hne : errF (e1 ++ [f0, f1, f2, f3]) ≠ 0) :
    rdle (s0 ^^^ f0) (s1 ^^^ f1) (s2 ^^^ f2) (s3 ^^^ f3) ≠ sumL (xorL data e1) := by
  intro heq
  apply hne
  have lt : ∀ a b, a < 256 → b < 256 → a ^^^ b < 256 := fun a b ha hb => Nat.xor_lt_two_pow (n := 8) ha hb
  have m : ∀ k a b : Nat, 2 ^ k * (a ^^^ b) = (2 ^ k * a) ^^^ (2 ^ k * b) := by
    intro k a b
    apply Nat.eq_of_testBit_eq
    intro j
    rw [Nat.testBit_xor, Nat.testBit_two_pow_mul, Nat.testBit_two_pow_mul, Nat.testBit_two_pow_mul, Nat.testBit_xor]
    by_cases h : k ≤ j <;> simp [h]
  have hx : rdle (s0 ^^^ f0) (s1 ^^^ f1) (s2 ^^^ f2) (s3 ^^^ f3) = rdle s0 s1 s2 s3 ^^^ rdle f0 f1 f2 f3 := by
    rw [rdle_xor _ _ _ _ (lt _ _ hs0 hf0) (lt _ _ hs1 hf1) (lt _ _ hs2 hf2), rdle_xor _ _ _ _ hs0 hs1 hs2, rdle_xor _ _ _ _ hf0 hf1 hf2]
    have m8 := m 8 s1 f1
    have m16 := m 16 s2 f2
    have m24 := m 24 s3 f3
    simp only [show (2 : Nat) ^ 8 = 256 from rfl, show (2 : Nat) ^ 16 = 65536 from rfl, show (2 : Nat) ^ 24 = 16777216 from rfl] at m8 m16 m24
    rw [m8, m16, m24]
    generalize 16777216 * s3 = a3; generalize 16777216 * f3 = b3; generalize 65536 * s2 = a2; generalize 65536 * f2 = b2; generalize 256 * s1 = a1; generalize 256 * f1 = b1
    have sw : ∀ p q r s : Nat, (p ^^^ q) ^^^ (r ^^^ s) = (p ^^^ r) ^^^ (q ^^^ s) := by
      intro p q r s
      rw [Nat.xor_assoc, ← Nat.xor_assoc q r s, Nat.xor_comm q r, Nat.xor_assoc r q s, ← Nat.xor_assoc]
    rw [sw a1 b1 s0 f0, sw a2 b2, sw a3 b3]
  have h1 : sumL (xorL data e1) = sumL data ^^^ errF e1 := by
    unfold sumL errF
    have := crcL_xor data e1 4294967295 0 hl
    rw [Nat.xor_zero] at this
    rw [this]
    exact not_xor _ _ (crcL_lt data hd _ (by omega)) (crcL_lt e1 he _ (by omega))
  rw [hx, h1, hsum] at heq
  have h2 : rdle f0 f1 f2 f3 = errF e1 := by
    have h3 : sumL data ^^^ (sumL data ^^^ rdle f0 f1 f2 f3) = sumL data ^^^ (sumL data ^^^ errF e1) := by rw [heq]
    rwa [← Nat.xor_assoc, ← Nat.xor_assoc, Nat.xor_self, Nat.zero_xor, Nat.zero_xor] at h3
  rw [errF_append, crcL_four _ _ _ _ _ hf0 hf1 hf2, h2, Nat.xor_self, Tn_zero]

/-- Zero bytes behind a change of the state. -/
theorem crcL_state (t : List Nat) (s d : Nat) : crcL (s ^^^ d) t = crcL s t ^^^ Tn (8 * t.length) d := by
  induction t generalizing s d with
  | nil => rfl
  | cons c t ih =>
    show crcL (crcB (s ^^^ d) c) t = crcL (crcB s c) t ^^^ _
    have e : crcB (s ^^^ d) c = crcB s c ^^^ Tn 8 d := by
      rw [crcB_eq, crcB_eq, ← Tn_xor]
      congr 1
      rw [Nat.xor_assoc, Nat.xor_comm d c, ← Nat.xor_assoc]
    rw [e, ih, ← Tn_add]
    rw [show 8 * (c :: t).length = 8 * t.length + 8 by simp; omega]
theorem crcL_set (e : List Nat) (r i x : Nat) (h : i < e.length) : crcL r (e.set i (e.getD i 0 ^^^ x)) = crcL r e ^^^ Tn (8 * (e.length - i)) x := by
  induction e generalizing r i with
  | nil => simp at h
  | cons c t ih =>
    cases i with
    | zero =>
      show crcL (crcB r (c ^^^ x)) t = crcL (crcB r c) t ^^^ _
      have e1 : crcB r (c ^^^ x) = crcB r c ^^^ Tn 8 x := by rw [crcB_eq, crcB_eq, ← Tn_xor, Nat.xor_assoc]
      rw [e1, crcL_state, ← Tn_add]
      rw [show 8 * ((c :: t).length - 0) = 8 * t.length + 8 by simp; omega]
    | succ i =>
      show crcL (crcB r c) (t.set i (t.getD i 0 ^^^ x)) = crcL (crcB r c) t ^^^ _
      rw [ih (crcB r c) i (by simpa using h)]
      congr 2
      simp
/-- A bit is turned over. -/
def flip (bs : List Nat) (k : Nat) : List Nat := bs.set (k / 8) (bs.getD (k / 8) 0 ^^^ 2 ^ (k % 8))
theorem flip_len (bs : List Nat) (k : Nat) : (flip bs k).length = bs.length := by simp [flip]
theorem errF_flip (e : List Nat) (k : Nat) (h : k < 8 * e.length) : errF (flip e k) = errF e ^^^ Tn (8 * e.length - k) 1 := by
  unfold errF flip
  rw [crcL_set _ _ _ _ (by omega)]
  congr 1
  rw [show 8 * (e.length - k / 8) = (8 * e.length - k) + k % 8 by omega, Tn_add]
  congr 1
  have := Tn_mul (k % 8) 1
  rwa [Nat.mul_one] at this

/-- The parity of the lowest bits. -/
def par : Nat → Nat → Bool
  | 0, _ => false
  | k + 1, s => (s % 2 == 1) ^^ par k (s / 2)
theorem par_xor (k a b : Nat) : par k (a ^^^ b) = (par k a ^^ par k b) := by
  induction k generalizing a b with
  | zero => rfl
  | succ k ih =>
    simp only [par]
    rw [xor_div2, ih, xor_mod2]
    have ha : a % 2 = 0 ∨ a % 2 = 1 := by omega
    have hb : b % 2 = 0 ∨ b % 2 = 1 := by omega
    rcases ha with ha | ha <;> rcases hb with hb | hb <;> simp [ha, hb]
theorem par_more (k x : Nat) (h : x < 2 ^ k) : par (k + 1) x = par k x := by
  induction k generalizing x with
  | zero => have : x = 0 := by simpa using h
            subst this; rfl
  | succ k ih =>
    show ((x % 2 == 1) ^^ par (k + 1) (x / 2)) = ((x % 2 == 1) ^^ par k (x / 2))
    rw [ih (x / 2) (by rw [Nat.pow_succ] at h; omega)]
theorem par_T (s : Nat) (h : s < 4294967296) : par 32 (T s) = par 32 s := by
  have h1 : par 32 s = ((s % 2 == 1) ^^ par 31 (s / 2)) := rfl
  have h2 : par 32 (s / 2) = par 31 (s / 2) := par_more 31 (s / 2) (by omega)
  unfold T
  rw [par_xor, h1, h2]
  have h3 : par 32 2197175160 = true := by decide
  have h4 : par 32 0 = false := by decide
  have ho : s % 2 = 0 ∨ s % 2 = 1 := by omega
  rcases ho with ho | ho
  · simp [ho, h4]
  · simp [ho, h3]
theorem par_Tn (n s : Nat) (h : s < 4294967296) : par 32 (Tn n s) = par 32 s := by
  induction n generalizing s with
  | zero => rfl
  | succ n ih => simp only [Tn]; rw [ih _ (T_lt s h), par_T s h]
theorem par_one (n : Nat) : par 32 (Tn n 1) = true := by rw [par_Tn n 1 (by omega)]; decide

/-- A linear map by what it makes of the bits. -/
def mapp : List Nat → Nat → Nat
  | [], _ => 0
  | a :: A, s => (if s % 2 = 1 then a else 0) ^^^ mapp A (s / 2)
theorem mapp_rep (n : Nat) : ∀ (k j : Nat) (A : List Nat), A.length = k → (∀ i, i < k → A.getD i 0 = Tn n (2 ^ (j + i))) → ∀ s, s < 2 ^ k → mapp A s = Tn n (2 ^ j * s) := by
  intro k
  induction k with
  | zero =>
    intro j A hA _ s hs
    have : s = 0 := by simpa using hs
    subst this
    have : A = [] := List.eq_nil_of_length_eq_zero hA
    subst this
    simp [mapp, Tn_zero]
  | succ k ih =>
    intro j A hA hrep s hs
    cases A with
    | nil => simp at hA
    | cons a A =>
      have ha : a = Tn n (2 ^ j) := by have := hrep 0 (by omega); simpa using this
      have hrec := ih (j + 1) A (by simpa using hA) (fun i hi => by
        have := hrep (i + 1) (by omega)
        rw [show j + 1 + i = j + (i + 1) by omega]
        simpa using this) (s / 2) (by rw [Nat.pow_succ] at hs; omega)
      show (if s % 2 = 1 then a else 0) ^^^ mapp A (s / 2) = _
      rw [hrec]
      have hs2 : s = 2 * (s / 2) + s % 2 := by omega
      have e : 2 ^ j * s = (2 ^ (j + 1) * (s / 2)) ^^^ (2 ^ j * (s % 2)) := by
        have h1 := xor_eq_add (j + 1) (s / 2) (2 ^ j * (s % 2)) (by
          rw [Nat.pow_succ]
          have : s % 2 ≤ 1 := by omega
          have := Nat.mul_le_mul_left (2 ^ j) this
          have := Nat.two_pow_pos j
          omega)
        rw [h1]
        conv => lhs; rw [hs2]
        rw [Nat.mul_add, Nat.pow_succ, ← Nat.mul_assoc]
      rw [e, Tn_xor, Nat.xor_comm]
      congr 1
      by_cases ho : s % 2 = 1
      · rw [if_pos ho, ho, Nat.mul_one, ha]
      · rw [if_neg ho, show s % 2 = 0 by omega, Nat.mul_zero, Tn_zero]
def Rep (A : List Nat) (n : Nat) : Prop := A.length = 32 ∧ ∀ i, i < 32 → A.getD i 0 = Tn n (2 ^ i)
theorem Rep.at_ {A : List Nat} {n : Nat} (h : Rep A n) (s : Nat) (hs : s < 4294967296) : mapp A s = Tn n s := by
  have := mapp_rep n 32 0 A h.1 (fun i hi => by rw [Nat.zero_add]; exact h.2 i hi) s hs
  simpa using this
def msq (A : List Nat) : List Nat := A.map (mapp A)
theorem Rep.sqr {A : List Nat} {n : Nat} (h : Rep A n) : Rep (msq A) (2 * n) := by
  refine ⟨by simp [msq, h.1], fun i hi => ?_⟩
  have h1 : (msq A).getD i 0 = mapp A (A.getD i 0) := by
    have hi2 : i < A.length := by rw [h.1]; exact hi
    simp [msq, List.getD, List.getElem?_eq_getElem hi2]
  have h2 : 2 ^ i < 4294967296 := Nat.lt_of_le_of_lt (Nat.pow_le_pow_right (by omega) (show i ≤ 31 by omega)) (by decide)
  rw [h1, h.2 i hi, h.at_ _ (Tn_lt n _ h2), ← Tn_add, Nat.two_mul]
def powv : Nat → List Nat → Nat → Nat
  | 0, _, v => v
  | k + 1, A, v => powv k (msq A) (mapp A v)
theorem powv_eq (k : Nat) : ∀ (A : List Nat) (n v : Nat), Rep A n → v < 4294967296 → powv k A v = Tn (n * (2 ^ k - 1)) v := by
  induction k with
  | zero => intro A n v _ _; simp [powv, Tn]
  | succ k ih =>
    intro A n v h hv
    simp only [powv]
    rw [ih (msq A) (2 * n) _ h.sqr (by rw [h.at_ v hv]; exact Tn_lt n v hv), h.at_ v hv, ← Tn_add]
    congr 1
    have hp := Nat.two_pow_pos k
    have e : 2 ^ (k + 1) - 1 = 2 * (2 ^ k - 1) + 1 := by rw [Nat.pow_succ]; omega
    rw [e, Nat.mul_add, Nat.mul_one, ← Nat.mul_assoc, Nat.mul_comm n 2]
def A0 : List Nat := (List.range 32).map fun i => T (2 ^ i)
theorem A0_rep : Rep A0 1 := by
  refine ⟨by simp [A0], fun i hi => ?_⟩
  simp [A0, List.getElem?_range hi, Tn]
theorem back : Tn 2147483647 1 = 1 := by
  have h := powv_eq 31 A0 1 1 A0_rep (by omega)
  have h2 : powv 31 A0 1 = 1 := by decide +kernel
  rw [h2] at h
  have e : 1 * (2 ^ 31 - 1) = 2147483647 := by decide
  rw [e] at h
  exact h.symm
/-- No divisor. -/
def chk : Nat → Nat → Bool
  | 0, lo => decide (lo < 2) || decide (2147483647 % lo ≠ 0)
  | k + 1, lo => chk k lo && chk k (lo + 2 ^ k)
theorem chk_ok (k : Nat) : ∀ lo, chk k lo = true → ∀ p, lo ≤ p → p < lo + 2 ^ k → p < 2 ∨ 2147483647 % p ≠ 0 := by
  induction k with
  | zero =>
    intro lo h p h1 h2
    have : p = lo := by simp at h2; omega
    subst this
    simpa [chk] using h
  | succ k ih =>
    intro lo h p h1 h2
    simp only [chk, Bool.and_eq_true] at h
    rw [Nat.pow_succ] at h2
    by_cases hp : p < lo + 2 ^ k
    · exact ih lo h.1 p h1 hp
    · exact ih (lo + 2 ^ k) h.2 p (by omega) (by omega)
theorem no_div (p : Nat) (h1 : 2 ≤ p) (h2 : p < 65536) : 2147483647 % p ≠ 0 := by
  have := chk_ok 16 0 (by decide +kernel) p (Nat.zero_le _) (by simpa using h2)
  rcases this with h | h
  · omega
  · exact h
theorem ord_mod (a b : Nat) (ha : Tn a 1 = 1) (hb : Tn b 1 = 1) (hpos : 0 < b) : Tn (a % b) 1 = 1 := by
  have h1 : ∀ q, Tn (b * q) 1 = 1 := by
    intro q
    induction q with
    | zero => rfl
    | succ q ih => rw [Nat.mul_succ, Tn_add, hb, ih]
  have h2 : Tn (a % b + b * (a / b)) 1 = 1 := by rw [Nat.mod_add_div]; exact ha
  rwa [Tn_add, h1] at h2
theorem ord_gcd (a : Nat) : ∀ b, Tn a 1 = 1 → Tn b 1 = 1 → Tn (Nat.gcd a b) 1 = 1 := by
  induction a using Nat.strongRecOn with
  | _ a ih =>
    intro b ha hb
    by_cases h0 : a = 0
    · subst h0; rw [Nat.gcd_zero_left]; exact hb
    · rw [Nat.gcd_rec]
      exact ih (b % a) (Nat.mod_lt _ (by omega)) a (ord_mod b a hb ha (by omega)) ha
theorem ord_big (d : Nat) (h1 : 0 < d) (h2 : d < 2147483647) : Tn d 1 ≠ 1 := by
  intro h
  have hg := ord_gcd d 2147483647 h back
  have hd1 : Nat.gcd d 2147483647 ∣ 2147483647 := Nat.gcd_dvd_right _ _
  have hd2 : Nat.gcd d 2147483647 ∣ d := Nat.gcd_dvd_left _ _
  have hle := Nat.le_of_dvd h1 hd2
  generalize Nat.gcd d 2147483647 = g at *
  obtain ⟨q, hq⟩ := hd1
  have hg0 : g ≠ 0 := by intro e; rw [e] at hq; simp at hq
  have hq1 : 2 ≤ q := by
    by_cases hq2 : 2 ≤ q
    · exact hq2
    · have : q = 0 ∨ q = 1 := by omega
      rcases this with e | e
      · rw [e] at hq; simp at hq
      · rw [e, Nat.mul_one] at hq; omega
  by_cases hg1 : g = 1
  · rw [hg1] at hg
    exact absurd hg (by decide)
  · by_cases hsm : g < 65536
    · exact no_div g (by omega) hsm (Nat.mod_eq_zero_of_dvd ⟨q, hq⟩)
    · have hq3 : q < 65536 := by
        by_cases hq4 : q < 65536
        · exact hq4
        · have := Nat.mul_le_mul (show 65536 ≤ g by omega) (show 65536 ≤ q by omega)
          omega
      exact no_div q hq1 hq3 (Nat.mod_eq_zero_of_dvd ⟨g, by rw [Nat.mul_comm]; exact hq⟩)

end Go.Proofs.YtncbiohmogmcpaaDoor
