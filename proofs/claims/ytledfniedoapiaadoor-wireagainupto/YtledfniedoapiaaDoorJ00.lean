import Derived.Laws.BitsAllLaws
import Derived.RowKit
import Derived.Test.YtledfniedoapiaaDoorProg
import Derived.WalkKit
import Derived.WalkSpells
import Derived.WalkLawsBesides
import Derived.Laws.BytesArg
namespace Go.Proofs.YtledfniedoapiaaDoor
open Go.RowKit
set_option linter.unusedVariables false

/-- A number in groups of seven bits, the lowest first; at most f + 1 groups. -/
def uintF : Nat → Nat → List Nat
  | 0, v => [v]
  | f + 1, v => if 127 < v then (v % 128 + 128) :: uintF f (v / 128) else [v]
def uintL (v : Nat) : List Nat := uintF 9 v

theorem uintF_stop (f v : Nat) (h : v ≤ 127) : uintF f v = [v] := by
  cases f with
  | zero => rfl
  | succ f => simp [uintF]; omega
theorem uintF_go (f v : Nat) (h : 127 < v) : uintF (f + 1) v = (v % 128 + 128) :: uintF f (v / 128) := by simp [uintF, h]

theorem grp (v : Nat) (h : v < 18446744073709551616) : bits .or .u8 (bits .and .u64 (v : Int) 127 % 256) 128 = ((v % 128 + 128 : Nat) : Int) := by
  have h1 : bits .and .u64 (v : Int) 127 = ((v % 128 : Nat) : Int) := by
    have := u64_and_nat v 127 h (by omega)
    rw [nat_mask7] at this
    exact_mod_cast this
  rw [h1]
  have h2 : ((v % 128 : Nat) : Int) % 256 = ((v % 128 : Nat) : Int) := by omega
  rw [h2]
  have := u8_or_nat (v % 128) 128 (by omega) (by omega)
  rw [Nat.or_comm, nat_join 7 128 (v % 128) (by decide) (by omega)] at this
  rw [show ((128 : Int)) = ((128 : Nat) : Int) from rfl, this]
  omega

/-- What half a byte makes of the sum. -/
def tab : List Nat := [0, 274646895, 549293790, 820201905, 1098587580, 1361435347, 1640403810, 1905808397, 2197175160, 2460548119, 2722870694, 2987750089, 3280807620, 3553878443, 3811616794, 4084100981]
def half (r : Nat) : Nat := (r / 16) ^^^ tab.getD (r % 16) 0
def crcB (r c : Nat) : Nat := half (half (r ^^^ c))
def crcL (r : Nat) (bs : List Nat) : Nat := bs.foldl crcB r
def sumL (bs : List Nat) : Nat := 4294967295 - crcL 4294967295 bs

theorem tab_lt (i : Nat) : tab.getD i 0 < 4294967296 := by
  by_cases h : i < 16
  · have : ∀ j, j < 16 → tab.getD j 0 < 4294967296 := by decide
    exact this i h
  · have : tab.getD i 0 = 0 := by simp [List.getD, List.getElem?_eq_none (show tab.length ≤ i by simp [tab]; omega)]
    omega
theorem half_lt (r : Nat) (h : r < 4294967296) : half r < 4294967296 := by
  have h1 : r / 16 < 2 ^ 32 := by omega
  have h2 : tab.getD (r % 16) 0 < 2 ^ 32 := tab_lt _
  exact Nat.xor_lt_two_pow h1 h2
theorem xor_lt (r c : Nat) (h : r < 4294967296) (hc : c < 256) : r ^^^ c < 4294967296 := by
  have h1 : r < 2 ^ 32 := h
  have h2 : c < 2 ^ 32 := by omega
  exact Nat.xor_lt_two_pow h1 h2
theorem crcB_lt (r c : Nat) (h : r < 4294967296) (hc : c < 256) : crcB r c < 4294967296 := half_lt _ (half_lt _ (xor_lt r c h hc))
theorem crcL_lt (bs : List Nat) (hb : ∀ x ∈ bs, x < 256) : ∀ r, r < 4294967296 → crcL r bs < 4294967296 := by
  induction bs with
  | nil => intro r h; exact h
  | cons c bs ih => intro r h; exact ih (fun x hx => hb x (by simp [hx])) _ (crcB_lt r c h (hb c (by simp)))
theorem crcL_append (r : Nat) (a b : List Nat) : crcL r (a ++ b) = crcL (crcL r a) b := by simp [crcL, List.foldl_append]
theorem crcL_snoc (r : Nat) (a : List Nat) (c : Nat) : crcL r (a ++ [c]) = crcB (crcL r a) c := by simp [crcL, List.foldl_append]
theorem and15 (r : Nat) (h : r < 4294967296) : bits .and .u32 (r : Int) 15 = ((r % 16 : Nat) : Int) := by
  have := u32_and_nat r 15 h (by omega)
  rw [nat_mask4] at this
  exact this
theorem xor32 (a b : Nat) (ha : a < 4294967296) (hb : b < 4294967296) : bits .xor .u32 (a : Int) (b : Int) = ((a ^^^ b : Nat) : Int) := u32_xor_nat a b ha hb
theorem xor32d (a b : Nat) (ha : a < 4294967296) (hb : b < 4294967296) : bits .xor .u32 ((a : Int) / 16) (b : Int) = (((a / 16) ^^^ b : Nat) : Int) := by
  have := u32_xor_nat (a / 16) b (by omega) hb
  rw [show ((a : Int) / 16) = ((a / 16 : Nat) : Int) by omega]
  exact this
theorem nat_not32 (r : Nat) (h : r < 4294967296) : 4294967295 ^^^ r = 4294967295 - r := by
  apply Nat.eq_of_testBit_eq
  intro i
  rw [Nat.testBit_xor]
  have h1 : Nat.testBit 4294967295 i = decide (i < 32) := Nat.testBit_two_pow_sub_one 32 i
  have h2 : Nat.testBit (4294967295 - r) i = (decide (i < 32) && !Nat.testBit r i) := by
    have := Nat.testBit_two_pow_sub_succ (x := r) (n := 32) h i
    rw [show (4294967295 - r) = 2 ^ 32 - (r + 1) by omega]
    exact this
  rw [h1, h2]
  by_cases hi : i < 32
  · simp [hi]
  · have h3 : Nat.testBit r i = false := Nat.testBit_lt_two_pow (Nat.lt_of_lt_of_le h (Nat.pow_le_pow_right (n := 2) (i := 32) (j := i) (by omega) (by omega)))
    simp [hi, h3]
theorem not32 (r : Nat) (h : r < 4294967296) : bits .xor .u32 IntKind.u32.max (r : Int) = ((4294967295 - r : Nat) : Int) := by
  rw [show IntKind.u32.max = ((4294967295 : Nat) : Int) by decide, u32_xor_nat _ r (by omega) h, nat_not32 r h]
/-- What four bytes say, the lowest first. -/
def rdle (a b c d : Nat) : Nat := a + 256 * b + 65536 * c + 16777216 * d
theorem rdle_lt (a b c d : Nat) (ha : a < 256) (hb : b < 256) (hc : c < 256) (hd : d < 256) : rdle a b c d < 4294967296 := by unfold rdle; omega
theorem or32 (a b : Nat) (ha : a < 4294967296) (hb : b < 4294967296) (x y : Int) (hx : x = (a : Int)) (hy : y = (b : Int)) : bits .or .u32 x y = ((a ||| b : Nat) : Int) := by
  subst hx; subst hy; exact u32_or_nat a b ha hb
theorem ori64 (a b : Nat) (ha : a < 4611686018427387904) (hb : b < 4611686018427387904) (x y : Int) (hx : x = (a : Int)) (hy : y = (b : Int)) : bits .or .i64 x y = ((a ||| b : Nat) : Int) := by
  subst hx; subst hy
  have hz : a ||| b < 2 ^ 62 := Nat.or_lt_two_pow (by omega) (by omega)
  show IntKind.i64.wrap ((BitVec.ofInt 64 (a : Int) ||| BitVec.ofInt 64 (b : Int)).toNat : Int) = _
  rw [BitVec.toNat_or, ofInt_u64 a (by omega), ofInt_u64 b (by omega)]
  simp only [IntKind.wrap, IntKind.bits, IntKind.signed]
  simp
  omega
theorem chain_le (a b c d : Nat) (ha : a < 256) (hb : b < 256) (hc : c < 256) (hd : d < 256) : ((a ||| b * 256) ||| c * 65536) ||| d * 16777216 = rdle a b c d := by
  have h1 : a ||| b * 256 = a + b * 256 := by rw [Nat.or_comm, nat_join 8 (b * 256) a (by omega) (by omega)]; omega
  have h2 : (a + b * 256) ||| c * 65536 = a + b * 256 + c * 65536 := by rw [Nat.or_comm, nat_join 16 (c * 65536) _ (by omega) (by omega)]; omega
  have h3 : (a + b * 256 + c * 65536) ||| d * 16777216 = a + b * 256 + c * 65536 + d * 16777216 := by rw [Nat.or_comm, nat_join 24 (d * 16777216) _ (by omega) (by omega)]; omega
  rw [h1, h2, h3]; unfold rdle; omega
theorem chain_be (a b c d : Nat) (ha : a < 256) (hb : b < 256) (hc : c < 256) (hd : d < 256) : ((d * 16777216 ||| c * 65536) ||| b * 256) ||| a = rdle a b c d := by
  have h1 : d * 16777216 ||| c * 65536 = d * 16777216 + c * 65536 := nat_join 24 _ _ (by omega) (by omega)
  have h2 : (d * 16777216 + c * 65536) ||| b * 256 = d * 16777216 + c * 65536 + b * 256 := nat_join 16 _ _ (by omega) (by omega)
  have h3 : (d * 16777216 + c * 65536 + b * 256) ||| a = d * 16777216 + c * 65536 + b * 256 + a := nat_join 8 _ _ (by omega) (by omega)
  rw [h1, h2, h3]; unfold rdle; omega
theorem chain32 (a b c d : Nat) (ha : a < 256) (hb : b < 256) (hc : c < 256) (hd : d < 256) :
    bits .or .u32 (bits .or .u32 (bits .or .u32 (a : Int) ((b : Int) * 256)) ((c : Int) * 65536)) ((d : Int) * 16777216) = ((rdle a b c d : Nat) : Int) := by
  have e1 := or32 a (b * 256) (by omega) (by omega) (a : Int) ((b : Int) * 256) rfl (by omega)
  have l1 : a ||| b * 256 < 4294967296 := Nat.or_lt_two_pow (n := 32) (by omega) (by omega)
  have e2 := or32 (a ||| b * 256) (c * 65536) l1 (by omega) _ ((c : Int) * 65536) e1 (by omega)
  have l2 : (a ||| b * 256) ||| c * 65536 < 4294967296 := Nat.or_lt_two_pow (n := 32) l1 (by omega)
  have e3 := or32 _ (d * 16777216) l2 (by omega) _ ((d : Int) * 16777216) e2 (by omega)
  rw [e3, chain_le a b c d ha hb hc hd]
theorem chaini64 (a b c d : Nat) (ha : a < 256) (hb : b < 256) (hc : c < 256) (hd : d < 256) :
    bits .or .i64 (bits .or .i64 (bits .or .i64 ((d : Int) * 16777216) ((c : Int) * 65536)) ((b : Int) * 256)) (a : Int) = ((rdle a b c d : Nat) : Int) := by
  have e1 := ori64 (d * 16777216) (c * 65536) (by omega) (by omega) ((d : Int) * 16777216) ((c : Int) * 65536) (by omega) (by omega)
  have l1 : d * 16777216 ||| c * 65536 < 4611686018427387904 := Nat.or_lt_two_pow (n := 62) (by omega) (by omega)
  have e2 := ori64 (d * 16777216 ||| c * 65536) (b * 256) l1 (by omega) _ ((b : Int) * 256) e1 (by omega)
  have l2 : (d * 16777216 ||| c * 65536) ||| b * 256 < 4611686018427387904 := Nat.or_lt_two_pow (n := 62) l1 (by omega)
  have e3 := ori64 _ a l2 (by omega) _ (a : Int) e2 rfl
  rw [e3, chain_be a b c d ha hb hc hd]
theorem take_succ_getD (bs : List Nat) (k : Nat) (h : k < bs.length) : bs.take (k + 1) = bs.take k ++ [bs.getD k 0] := by
  rw [List.take_succ_eq_append_getElem h]; simp [List.getD, List.getElem?_eq_getElem h]

end Go.Proofs.YtledfniedoapiaaDoor

namespace Go.Proofs.YtledfniedoapiaaDoor
open Go.RowKit
set_option linter.unusedVariables false

/-- One bit's step. -/
def T (s : Nat) : Nat := (s / 2) ^^^ (if s % 2 = 1 then 2197175160 else 0)
def Tn : Nat → Nat → Nat
  | 0, s => s
  | n + 1, s => Tn n (T s)

theorem xor_div2 (a b : Nat) : (a ^^^ b) / 2 = (a / 2) ^^^ (b / 2) := by
  have := Nat.shiftRight_xor_distrib (a := a) (b := b) (i := 1)
  simpa [Nat.shiftRight_eq_div_pow] using this
theorem xor_mod2 (a b : Nat) : (a ^^^ b) % 2 = (a % 2) ^^^ (b % 2) := by
  have h := Nat.xor_mod_two_pow (a := a) (b := b) (n := 1)
  simpa using h
theorem T_xor (a b : Nat) : T (a ^^^ b) = T a ^^^ T b := by
  unfold T
  rw [xor_div2, xor_mod2]
  have ha : a % 2 = 0 ∨ a % 2 = 1 := by omega
  have hb : b % 2 = 0 ∨ b % 2 = 1 := by omega
  rcases ha with ha | ha <;> rcases hb with hb | hb <;> simp [ha, hb]
  · rw [Nat.xor_assoc]
  · rw [Nat.xor_assoc, Nat.xor_assoc, Nat.xor_comm (b / 2)]
  · rw [Nat.xor_comm (b / 2) 2197175160, ← Nat.xor_assoc, Nat.xor_assoc (a / 2), Nat.xor_self, Nat.xor_zero]
theorem Tn_xor (n a b : Nat) : Tn n (a ^^^ b) = Tn n a ^^^ Tn n b := by
  induction n generalizing a b with
  | zero => rfl
  | succ n ih => simp only [Tn]; rw [T_xor, ih]
theorem Tn_add (m n s : Nat) : Tn (m + n) s = Tn m (Tn n s) := by
  induction n generalizing s with
  | zero => rfl
  | succ n ih => rw [Nat.add_succ]; simp only [Tn]; exact ih (T s)
theorem T_lt (s : Nat) (h : s < 4294967296) : T s < 4294967296 := by
  unfold T
  have h1 : s / 2 < 2 ^ 32 := by omega
  exact Nat.xor_lt_two_pow h1 (by split <;> omega)
theorem Tn_lt (n s : Nat) (h : s < 4294967296) : Tn n s < 4294967296 := by
  induction n generalizing s with
  | zero => exact h
  | succ n ih => exact ih _ (T_lt s h)
theorem xor_zero {a b : Nat} (h : a ^^^ b = 0) : a = b := by
  have h2 : (a ^^^ b) ^^^ b = 0 ^^^ b := by rw [h]
  rwa [Nat.xor_assoc, Nat.xor_self, Nat.xor_zero, Nat.zero_xor] at h2
theorem T_zero : T 0 = 0 := rfl
theorem Tn_zero (n : Nat) : Tn n 0 = 0 := by
  induction n with
  | zero => rfl
  | succ n ih => simp only [Tn, T_zero]; exact ih
theorem T_ne (s : Nat) (h : s < 4294967296) (h0 : s ≠ 0) : T s ≠ 0 := by
  unfold T
  by_cases ho : s % 2 = 1
  · rw [if_pos ho]
    intro hz
    have e := xor_zero hz
    omega
  · rw [if_neg ho, Nat.xor_zero]
    omega
theorem Tn_ne (n s : Nat) (h : s < 4294967296) (h0 : s ≠ 0) : Tn n s ≠ 0 := by
  induction n generalizing s with
  | zero => exact h0
  | succ n ih => exact ih _ (T_lt s h) (T_ne s h h0)
theorem Tn_inj (n a b : Nat) (ha : a < 4294967296) (hb : b < 4294967296) (h : Tn n a = Tn n b) : a = b := by
  by_cases hab : a = b
  · exact hab
  · have hx : a ^^^ b ≠ 0 := fun e => hab (xor_zero e)
    have := Tn_ne n (a ^^^ b) (Nat.xor_lt_two_pow (n := 32) ha hb) hx
    rw [Tn_xor, h, Nat.xor_self] at this
    exact absurd rfl this

theorem T_two (q : Nat) : T (2 * q) = q := by unfold T; rw [if_neg (by omega), Nat.xor_zero]; omega
theorem half_eq (r : Nat) : half r = Tn 4 r := by
  have hr : r = (16 * (r / 16)) ^^^ (r % 16) := by
    have h1 := nat_join 4 (16 * (r / 16)) (r % 16) (by omega) (by omega)
    have h2 : (16 * (r / 16)) ^^^ (r % 16) = (16 * (r / 16)) ||| (r % 16) := by
      apply Nat.eq_of_testBit_eq
      intro i
      rw [Nat.testBit_xor, Nat.testBit_or]
      by_cases hi : i < 4
      · have : (16 * (r / 16)).testBit i = false := by
          rw [show 16 * (r / 16) = 2 ^ 4 * (r / 16) by omega, Nat.testBit_two_pow_mul]
          simp; omega
        simp [this]
      · have : (r % 16).testBit i = false := Nat.testBit_lt_two_pow (Nat.lt_of_lt_of_le (show r % 16 < 2 ^ 4 by omega) (Nat.pow_le_pow_right (by omega) (by omega)))
        simp [this]
    rw [h2, h1]; omega
  have h16 : Tn 4 (16 * (r / 16)) = r / 16 := by
    simp only [Tn]
    rw [show 16 * (r / 16) = 2 * (2 * (2 * (2 * (r / 16)))) by omega, T_two, T_two, T_two, T_two]
  have ht : ∀ i, i < 16 → Tn 4 i = tab.getD i 0 := by decide
  conv => rhs; rw [hr, Tn_xor, h16, ht (r % 16) (by omega)]
  rfl
theorem crcB_eq (r c : Nat) : crcB r c = Tn 8 (r ^^^ c) := by
  unfold crcB
  rw [half_eq, half_eq, ← Tn_add]
theorem crcB_xor (r s c d : Nat) : crcB (r ^^^ s) (c ^^^ d) = crcB r c ^^^ crcB s d := by
  rw [crcB_eq, crcB_eq, crcB_eq, ← Tn_xor]
  congr 1
  rw [Nat.xor_assoc, ← Nat.xor_assoc s c d, Nat.xor_comm s c, Nat.xor_assoc c s d, ← Nat.xor_assoc]
/-- Errors: the bytes, changed. -/
def xorL (a b : List Nat) : List Nat := List.zipWith (· ^^^ ·) a b
theorem crcL_xor : ∀ (a b : List Nat) (r s : Nat), a.length = b.length → crcL (r ^^^ s) (xorL a b) = crcL r a ^^^ crcL s b
  | [], [], r, s, _ => rfl
  | x :: a, y :: b, r, s, h => by
    show crcL (crcB (r ^^^ s) (x ^^^ y)) (xorL a b) = crcL (crcB r x) a ^^^ crcL (crcB s y) b
    rw [crcB_xor]
    exact crcL_xor a b _ _ (by simpa using h)

/-- What the errors of a string of bytes come to. -/
def errF (e : List Nat) : Nat := crcL 0 e
theorem errF_append (a b : List Nat) : errF (a ++ b) = crcL (errF a) b := by simp [errF, crcL, List.foldl_append]

theorem xor_eq_add (i q y : Nat) (hy : y < 2 ^ i) : (2 ^ i * q) ^^^ y = 2 ^ i * q + y := by
  have h1 := nat_join i (2 ^ i * q) y (by simp) hy
  have h2 : (2 ^ i * q) ^^^ y = (2 ^ i * q) ||| y := by
    apply Nat.eq_of_testBit_eq
    intro j
    rw [Nat.testBit_xor, Nat.testBit_or]
    by_cases hj : j < i
    · have : (2 ^ i * q).testBit j = false := by rw [Nat.testBit_two_pow_mul]; simp; omega
      simp [this]
    · have : y.testBit j = false := Nat.testBit_lt_two_pow (Nat.lt_of_lt_of_le hy (Nat.pow_le_pow_right (by omega) (by omega)))
      simp [this]
  rw [h2, h1]
theorem rdle_xor (a b c d : Nat) (ha : a < 256) (hb : b < 256) (hc : c < 256) : rdle a b c d = (16777216 * d) ^^^ ((65536 * c) ^^^ ((256 * b) ^^^ a)) := by
  have h1 := xor_eq_add 8 b a (by omega)
  have h2 := xor_eq_add 16 c (256 * b + a) (by omega)
  have h3 := xor_eq_add 24 d (65536 * c + (256 * b + a)) (by omega)
  simp only [show (2 : Nat) ^ 8 = 256 from rfl, show (2 : Nat) ^ 16 = 65536 from rfl, show (2 : Nat) ^ 24 = 16777216 from rfl] at h1 h2 h3
  rw [h1, h2, h3]
  unfold rdle; omega
theorem Tn_mul (i q : Nat) : Tn i (2 ^ i * q) = q := by
  induction i generalizing q with
  | zero => simp [Tn]
  | succ i ih =>
    simp only [Tn]
    rw [show 2 ^ (i + 1) * q = 2 * (2 ^ i * q) by rw [Nat.pow_succ]; rw [Nat.mul_comm (2 ^ i) 2, Nat.mul_assoc], T_two]
    exact ih q
theorem Tn_byte (n r c : Nat) : Tn 8 (Tn n r ^^^ c) = Tn (8 + n) (r ^^^ (2 ^ n * c)) := by
  rw [Tn_add, Tn_xor n, Tn_mul]
/-- Four bytes behind a state. -/
theorem crcL_four (r a b c d : Nat) (ha : a < 256) (hb : b < 256) (hc : c < 256) : crcL r [a, b, c, d] = Tn 32 (r ^^^ rdle a b c d) := by
  show crcB (crcB (crcB (crcB r a) b) c) d = _
  rw [crcB_eq, crcB_eq, crcB_eq, crcB_eq, Tn_byte 8 (r ^^^ a) b]
  have e2 := Tn_byte 16 (r ^^^ a ^^^ 2 ^ 8 * b) c
  have e3 := Tn_byte 24 (r ^^^ a ^^^ 2 ^ 8 * b ^^^ 2 ^ 16 * c) d
  rw [show (8 + 8 : Nat) = 16 from rfl, e2, show (8 + 16 : Nat) = 24 from rfl, e3, rdle_xor a b c d ha hb hc]
  show Tn 32 _ = Tn 32 _
  congr 1
  simp only [show (2 : Nat) ^ 8 = 256 from rfl, show (2 : Nat) ^ 16 = 65536 from rfl, show (2 : Nat) ^ 24 = 16777216 from rfl]
  rw [Nat.xor_assoc, Nat.xor_assoc, Nat.xor_assoc]
  congr 1
  rw [Nat.xor_comm (16777216 * d), Nat.xor_comm (65536 * c) (256 * b ^^^ a), Nat.xor_comm (256 * b) a]
  simp only [Nat.xor_assoc]
theorem not_xor (x y : Nat) (hx : x < 4294967296) (hy : y < 4294967296) : 4294967295 - (x ^^^ y) = (4294967295 - x) ^^^ y := by
  have nt : ∀ r, r < 4294967296 → 4294967295 ^^^ r = 4294967295 - r := by
    intro r h
    apply Nat.eq_of_testBit_eq
    intro i
    rw [Nat.testBit_xor]
    have h1 : Nat.testBit 4294967295 i = decide (i < 32) := Nat.testBit_two_pow_sub_one 32 i
    have h2 : Nat.testBit (4294967295 - r) i = (decide (i < 32) && !Nat.testBit r i) := by
      have := Nat.testBit_two_pow_sub_succ (x := r) (n := 32) h i
      rw [show (4294967295 - r) = 2 ^ 32 - (r + 1) by omega]
      exact this
    rw [h1, h2]
    by_cases hi : i < 32
    · simp [hi]
    · have h3 : Nat.testBit r i = false := Nat.testBit_lt_two_pow (Nat.lt_of_lt_of_le h (Nat.pow_le_pow_right (n := 2) (i := 32) (j := i) (by omega) (by omega)))
      simp [hi, h3]
  rw [← nt _ (Nat.xor_lt_two_pow (n := 32) hx hy), ← nt x hx, Nat.xor_assoc]

/-- A sum does not fit bytes that were changed, if what the changes come to is not nothing. -/
theorem detect (data e1 : List Nat) (hd : ∀ x ∈ data, x < 256) (he : ∀ x ∈ e1, x < 256) (hl : data.length = e1.length) (s0 s1 s2 s3 f0 f1 f2 f3 : Nat)
    (hs0 : s0 < 256) (hs1 : s1 < 256) (hs2 : s2 < 256) (hf0 : f0 < 256) (hf1 : f1 < 256) (hf2 : f2 < 256) (hs3 : s3 < 256) (hf3 : f3 < 256)
    (hsum : rdle s0 s1 s2 s3 = sumL data) (hne : errF (e1 ++ [f0, f1, f2, f3]) ≠ 0) :
    rdle (s0 ^^^ f0) (s1 ^^^ f1) (s2 ^^^ f2) (s3 ^^^ f3) ≠ sumL (xorL data e1) := by
  intro heq
  apply hne
  have lt : ∀ a b, a < 256 → b < 256 → a ^^^ b < 256 := fun a b ha hb => Nat.xor_lt_two_pow (n := 8) ha hb
  have m : ∀ k a b : Nat, 2 ^ k * (a ^^^ b) = (2 ^ k * a) ^^^ (2 ^ k * b) := by
    intro k a b
    apply Nat.eq_of_testBit_eq
    intro j
    rw [Nat.testBit_xor, Nat.testBit_two_pow_mul, Nat.testBit_two_pow_mul, Nat.testBit_two_pow_mul, Nat.testBit_xor]
    by_cases h : k ≤ j <;> simp [h]
  have hx : rdle (s0 ^^^ f0) (s1 ^^^ f1) (s2 ^^^ f2) (s3 ^^^ f3) = rdle s0 s1 s2 s3 ^^^ rdle f0 f1 f2 f3 := by
    rw [rdle_xor _ _ _ _ (lt _ _ hs0 hf0) (lt _ _ hs1 hf1) (lt _ _ hs2 hf2), rdle_xor _ _ _ _ hs0 hs1 hs2, rdle_xor _ _ _ _ hf0 hf1 hf2]
    have m8 := m 8 s1 f1
    have m16 := m 16 s2 f2
    have m24 := m 24 s3 f3
    simp only [show (2 : Nat) ^ 8 = 256 from rfl, show (2 : Nat) ^ 16 = 65536 from rfl, show (2 : Nat) ^ 24 = 16777216 from rfl] at m8 m16 m24
    rw [m8, m16, m24]
    generalize 16777216 * s3 = a3; generalize 16777216 * f3 = b3; generalize 65536 * s2 = a2; generalize 65536 * f2 = b2; generalize 256 * s1 = a1; generalize 256 * f1 = b1
    have sw : ∀ p q r s : Nat, (p ^^^ q) ^^^ (r ^^^ s) = (p ^^^ r) ^^^ (q ^^^ s) := by
      intro p q r s
      rw [Nat.xor_assoc, ← Nat.xor_assoc q r s, Nat.xor_comm q r, Nat.xor_assoc r q s, ← Nat.xor_assoc]
    rw [sw a1 b1 s0 f0, sw a2 b2, sw a3 b3]
  have h1 : sumL (xorL data e1) = sumL data ^^^ errF e1 := by
    unfold sumL errF
    have := crcL_xor data e1 4294967295 0 hl
    rw [Nat.xor_zero] at this
    rw [this]
    exact not_xor _ _ (crcL_lt data hd _ (by omega)) (crcL_lt e1 he _ (by omega))
  rw [hx, h1, hsum] at heq
  have h2 : rdle f0 f1 f2 f3 = errF e1 := by
    have h3 : sumL data ^^^ (sumL data ^^^ rdle f0 f1 f2 f3) = sumL data ^^^ (sumL data ^^^ errF e1) := by rw [heq]
    rwa [← Nat.xor_assoc, ← Nat.xor_assoc, Nat.xor_self, Nat.zero_xor, Nat.zero_xor] at h3
  rw [errF_append, crcL_four _ _ _ _ _ hf0 hf1 hf2, h2, Nat.xor_self, Tn_zero]

/-- Zero bytes behind a change of the state. -/
theorem crcL_state (t : List Nat) (s d : Nat) : crcL (s ^^^ d) t = crcL s t ^^^ Tn (8 * t.length) d := by
  induction t generalizing s d with
  | nil => rfl
  | cons c t ih =>
    show crcL (crcB (s ^^^ d) c) t = crcL (crcB s c) t ^^^ _
    have e : crcB (s ^^^ d) c = crcB s c ^^^ Tn 8 d := by
      rw [crcB_eq, crcB_eq, ← Tn_xor]
      congr 1
      rw [Nat.xor_assoc, Nat.xor_comm d c, ← Nat.xor_assoc]
    rw [e, ih, ← Tn_add]
    rw [show 8 * (c :: t).length = 8 * t.length + 8 by simp; omega]
theorem crcL_set (e : List Nat) (r i x : Nat) (h : i < e.length) : crcL r (e.set i (e.getD i 0 ^^^ x)) = crcL r e ^^^ Tn (8 * (e.length - i)) x := by
  induction e generalizing r i with
  | nil => simp at h
  | cons c t ih =>
    cases i with
    | zero =>
      show crcL (crcB r (c ^^^ x)) t = crcL (crcB r c) t ^^^ _
      have e1 : crcB r (c ^^^ x) = crcB r c ^^^ Tn 8 x := by rw [crcB_eq, crcB_eq, ← Tn_xor, Nat.xor_assoc]
      rw [e1, crcL_state, ← Tn_add]
      rw [show 8 * ((c :: t).length - 0) = 8 * t.length + 8 by simp; omega]
    | succ i =>
      show crcL (crcB r c) (t.set i (t.getD i 0 ^^^ x)) = crcL (crcB r c) t ^^^ _
      rw [ih (crcB r c) i (by simpa using h)]
      congr 2
      simp
/-- A bit is turned over. -/
def flip (bs : List Nat) (k : Nat) : List Nat := bs.set (k / 8) (bs.getD (k / 8) 0 ^^^ 2 ^ (k % 8))
theorem flip_len (bs : List Nat) (k : Nat) : (flip bs k).length = bs.length := by simp [flip]
theorem errF_flip (e : List Nat) (k : Nat) (h : k < 8 * e.length) : errF (flip e k) = errF e ^^^ Tn (8 * e.length - k) 1 := by
  unfold errF flip
  rw [crcL_set _ _ _ _ (by omega)]
  congr 1
  rw [show 8 * (e.length - k / 8) = (8 * e.length - k) + k % 8 by omega, Tn_add]
  congr 1
  have := Tn_mul (k % 8) 1
  rwa [Nat.mul_one] at this

/-- The parity of the lowest bits. -/
def par : Nat → Nat → Bool
  | 0, _ => false
  | k + 1, s => (s % 2 == 1) ^^ par k (s / 2)
theorem par_xor (k a b : Nat) : par k (a ^^^ b) = (par k a ^^ par k b) := by
  induction k generalizing a b with
  | zero => rfl
  | succ k ih =>
    simp only [par]
    rw [xor_div2, ih, xor_mod2]
    have ha : a % 2 = 0 ∨ a % 2 = 1 := by omega
    have hb : b % 2 = 0 ∨ b % 2 = 1 := by omega
    rcases ha with ha | ha <;> rcases hb with hb | hb <;> simp [ha, hb]
theorem par_more (k x : Nat) (h : x < 2 ^ k) : par (k + 1) x = par k x := by
  induction k generalizing x with
  | zero => have : x = 0 := by simpa using h
            subst this; rfl
  | succ k ih =>
    show ((x % 2 == 1) ^^ par (k + 1) (x / 2)) = ((x % 2 == 1) ^^ par k (x / 2))
    rw [ih (x / 2) (by rw [Nat.pow_succ] at h; omega)]
theorem par_T (s : Nat) (h : s < 4294967296) : par 32 (T s) = par 32 s := by
  have h1 : par 32 s = ((s % 2 == 1) ^^ par 31 (s / 2)) := rfl
  have h2 : par 32 (s / 2) = par 31 (s / 2) := par_more 31 (s / 2) (by omega)
  unfold T
  rw [par_xor, h1, h2]
  have h3 : par 32 2197175160 = true := by decide
  have h4 : par 32 0 = false := by decide
  have ho : s % 2 = 0 ∨ s % 2 = 1 := by omega
  rcases ho with ho | ho
  · simp [ho, h4]
  · simp [ho, h3]
theorem par_Tn (n s : Nat) (h : s < 4294967296) : par 32 (Tn n s) = par 32 s := by
  induction n generalizing s with
  | zero => rfl
  | succ n ih => simp only [Tn]; rw [ih _ (T_lt s h), par_T s h]
theorem par_one (n : Nat) : par 32 (Tn n 1) = true := by rw [par_Tn n 1 (by omega)]; decide

/-- A linear map by what it makes of the bits. -/
def mapp : List Nat → Nat → Nat
  | [], _ => 0
  | a :: A, s => (if s % 2 = 1 then a else 0) ^^^ mapp A (s / 2)
theorem mapp_rep (n : Nat) : ∀ (k j : Nat) (A : List Nat), A.length = k → (∀ i, i < k → A.getD i 0 = Tn n (2 ^ (j + i))) → ∀ s, s < 2 ^ k → mapp A s = Tn n (2 ^ j * s) := by
  intro k
  induction k with
  | zero =>
    intro j A hA _ s hs
    have : s = 0 := by simpa using hs
    subst this
    have : A = [] := List.eq_nil_of_length_eq_zero hA
    subst this
    simp [mapp, Tn_zero]
  | succ k ih =>
    intro j A hA hrep s hs
    cases A with
    | nil => simp at hA
    | cons a A =>
      have ha : a = Tn n (2 ^ j) := by have := hrep 0 (by omega); simpa using this
      have hrec := ih (j + 1) A (by simpa using hA) (fun i hi => by
        have := hrep (i + 1) (by omega)
        rw [show j + 1 + i = j + (i + 1) by omega]
        simpa using this) (s / 2) (by rw [Nat.pow_succ] at hs; omega)
      show (if s % 2 = 1 then a else 0) ^^^ mapp A (s / 2) = _
      rw [hrec]
      have hs2 : s = 2 * (s / 2) + s % 2 := by omega
      have e : 2 ^ j * s = (2 ^ (j + 1) * (s / 2)) ^^^ (2 ^ j * (s % 2)) := by
        have h1 := xor_eq_add (j + 1) (s / 2) (2 ^ j * (s % 2)) (by
          rw [Nat.pow_succ]
          have : s % 2 ≤ 1 := by omega
          have := Nat.mul_le_mul_left (2 ^ j) this
          have := Nat.two_pow_pos j
          omega)
        rw [h1]
        conv => lhs; rw [hs2]
        rw [Nat.mul_add, Nat.pow_succ, ← Nat.mul_assoc]
      rw [e, Tn_xor, Nat.xor_comm]
      congr 1
      by_cases ho : s % 2 = 1
      · rw [if_pos ho, ho, Nat.mul_one, ha]
      · rw [if_neg ho, show s % 2 = 0 by omega, Nat.mul_zero, Tn_zero]
def Rep (A : List Nat) (n : Nat) : Prop := A.length = 32 ∧ ∀ i, i < 32 → A.getD i 0 = Tn n (2 ^ i)
theorem Rep.at_ {A : List Nat} {n : Nat} (h : Rep A n) (s : Nat) (hs : s < 4294967296) : mapp A s = Tn n s := by
  have := mapp_rep n 32 0 A h.1 (fun i hi => by rw [Nat.zero_add]; exact h.2 i hi) s hs
  simpa using this
def msq (A : List Nat) : List Nat := A.map (mapp A)
theorem Rep.sqr {A : List Nat} {n : Nat} (h : Rep A n) : Rep (msq A) (2 * n) := by
  refine ⟨by simp [msq, h.1], fun i hi => ?_⟩
  have h1 : (msq A).getD i 0 = mapp A (A.getD i 0) := by
    have hi2 : i < A.length := by rw [h.1]; exact hi
    simp [msq, List.getD, List.getElem?_eq_getElem hi2]
  have h2 : 2 ^ i < 4294967296 := Nat.lt_of_le_of_lt (Nat.pow_le_pow_right (by omega) (show i ≤ 31 by omega)) (by decide)
  rw [h1, h.2 i hi, h.at_ _ (Tn_lt n _ h2), ← Tn_add, Nat.two_mul]
def powv : Nat → List Nat → Nat → Nat
  | 0, _, v => v
  | k + 1, A, v => powv k (msq A) (mapp A v)
theorem powv_eq (k : Nat) : ∀ (A : List Nat) (n v : Nat), Rep A n → v < 4294967296 → powv k A v = Tn (n * (2 ^ k - 1)) v := by
  induction k with
  | zero => intro A n v _ _; simp [powv, Tn]
  | succ k ih =>
    intro A n v h hv
    simp only [powv]
    rw [ih (msq A) (2 * n) _ h.sqr (by rw [h.at_ v hv]; exact Tn_lt n v hv), h.at_ v hv, ← Tn_add]
    congr 1
    have hp := Nat.two_pow_pos k
    have e : 2 ^ (k + 1) - 1 = 2 * (2 ^ k - 1) + 1 := by rw [Nat.pow_succ]; omega
    rw [e, Nat.mul_add, Nat.mul_one, ← Nat.mul_assoc, Nat.mul_comm n 2]
def A0 : List Nat := (List.range 32).map fun i => T (2 ^ i)
theorem A0_rep : Rep A0 1 := by
  refine ⟨by simp [A0], fun i hi => ?_⟩
  simp [A0, List.getElem?_range hi, Tn]
theorem back : Tn 2147483647 1 = 1 := by
  have h := powv_eq 31 A0 1 1 A0_rep (by omega)
  have h2 : powv 31 A0 1 = 1 := by decide +kernel
  rw [h2] at h
  have e : 1 * (2 ^ 31 - 1) = 2147483647 := by decide
  rw [e] at h
  exact h.symm
/-- No divisor. -/
def chk : Nat → Nat → Bool
  | 0, lo => decide (lo < 2) || decide (2147483647 % lo ≠ 0)
  | k + 1, lo => chk k lo && chk k (lo + 2 ^ k)
theorem chk_ok (k : Nat) : ∀ lo, chk k lo = true → ∀ p, lo ≤ p → p < lo + 2 ^ k → p < 2 ∨ 2147483647 % p ≠ 0 := by
  induction k with
  | zero =>
    intro lo h p h1 h2
    have : p = lo := by simp at h2; omega
    subst this
    simpa [chk] using h
  | succ k ih =>
    intro lo h p h1 h2
    simp only [chk, Bool.and_eq_true] at h
    rw [Nat.pow_succ] at h2
    by_cases hp : p < lo + 2 ^ k
    · exact ih lo h.1 p h1 hp
    · exact ih (lo + 2 ^ k) h.2 p (by omega) (by omega)
theorem no_div (p : Nat) (h1 : 2 ≤ p) (h2 : p < 65536) : 2147483647 % p ≠ 0 := by
  have := chk_ok 16 0 (by decide +kernel) p (Nat.zero_le _) (by simpa using h2)
  rcases this with h | h
  · omega
  · exact h
theorem ord_mod (a b : Nat) (ha : Tn a 1 = 1) (hb : Tn b 1 = 1) (hpos : 0 < b) : Tn (a % b) 1 = 1 := by
  have h1 : ∀ q, Tn (b * q) 1 = 1 := by
    intro q
    induction q with
    | zero => rfl
    | succ q ih => rw [Nat.mul_succ, Tn_add, hb, ih]
  have h2 : Tn (a % b + b * (a / b)) 1 = 1 := by rw [Nat.mod_add_div]; exact ha
  rwa [Tn_add, h1] at h2
theorem ord_gcd (a : Nat) : ∀ b, Tn a 1 = 1 → Tn b 1 = 1 → Tn (Nat.gcd a b) 1 = 1 := by
  induction a using Nat.strongRecOn with
  | _ a ih =>
    intro b ha hb
    by_cases h0 : a = 0
    · subst h0; rw [Nat.gcd_zero_left]; exact hb
    · rw [Nat.gcd_rec]
      exact ih (b % a) (Nat.mod_lt _ (by omega)) a (ord_mod b a hb ha (by omega)) ha
theorem ord_big (d : Nat) (h1 : 0 < d) (h2 : d < 2147483647) : Tn d 1 ≠ 1 := by
  intro h
  have hg := ord_gcd d 2147483647 h back
  have hd1 : Nat.gcd d 2147483647 ∣ 2147483647 := Nat.gcd_dvd_right _ _
  have hd2 : Nat.gcd d 2147483647 ∣ d := Nat.gcd_dvd_left _ _
  have hle := Nat.le_of_dvd h1 hd2
  generalize Nat.gcd d 2147483647 = g at *
  obtain ⟨q, hq⟩ := hd1
  have hg0 : g ≠ 0 := by intro e; rw [e] at hq; simp at hq
  have hq1 : 2 ≤ q := by
    by_cases hq2 : 2 ≤ q
    · exact hq2
    · have : q = 0 ∨ q = 1 := by omega
      rcases this with e | e
      · rw [e] at hq; simp at hq
      · rw [e, Nat.mul_one] at hq; omega
  by_cases hg1 : g = 1
  · rw [hg1] at hg
    exact absurd hg (by decide)
  · by_cases hsm : g < 65536
    · exact no_div g (by omega) hsm (Nat.mod_eq_zero_of_dvd ⟨q, hq⟩)
    · have hq3 : q < 65536 := by
        by_cases hq4 : q < 65536
        · exact hq4
        · have := Nat.mul_le_mul (show 65536 ≤ g by omega) (show 65536 ≤ q by omega)
          omega
      exact no_div q hq1 hq3 (Nat.mod_eq_zero_of_dvd ⟨g, by rw [Nat.mul_comm]; exact hq⟩)

end Go.Proofs.YtledfniedoapiaaDoor

namespace Go.Proofs.YtledfniedoapiaaDoor
open Go.RowKit
set_option linter.unusedVariables false

theorem und_bytes : Tryd.prog.underlying 23 = some (.slice 5) := by kernel_rfl
theorem und_byte : Tryd.prog.underlying 5 = some (.int .u8) := by kernel_rfl
theorem und_string : Tryd.prog.underlying 9 = some .string := by kernel_rfl
theorem und_parts : Tryd.prog.underlying 25 = some (.slice 23) := by kernel_rfl
theorem info_byte : (Tryd.prog.info? 5).map (fun i => (i.zero, i.size, i.bytes)) = some (some (.int .u8 0), 1, 1) := by kernel_rfl

/-- The cells of bytes. -/
def bv (bs : List Nat) : List Value := bs.map fun n : Nat => Value.int .u8 (n : Int)

theorem bv_length (bs : List Nat) : (bv bs).length = bs.length := by simp [bv]
theorem bv_append (a b : List Nat) : bv (a ++ b) = bv a ++ bv b := by simp [bv]
theorem bv_oneCell (bs : List Nat) : ∀ u ∈ bv bs, u.oneCell' = true := by
  intro u hu
  simp only [bv, List.mem_map] at hu
  obtain ⟨n, _, rfl⟩ := hu
  rfl
theorem bv_get (bs : List Nat) (j : Nat) (u : Value) (h : (bv bs)[j]? = some u) : j < bs.length ∧ u = .int .u8 ((bs.getD j 0 : Nat) : Int) := by
  simp only [bv, List.getElem?_map, Option.map_eq_some_iff] at h
  obtain ⟨n, hn, rfl⟩ := h
  obtain ⟨hj, rfl⟩ := List.getElem?_eq_some_iff.1 hn
  exact ⟨hj, by simp [List.getD, List.getElem?_eq_getElem hj]⟩

/-- All are bytes. -/
def Bys (bs : List Nat) : Prop := ∀ x ∈ bs, x < 256

theorem Bys.get {bs : List Nat} (h : Bys bs) (i : Nat) : bs.getD i 0 < 256 := by
  by_cases hi : i < bs.length
  · simp [List.getD, List.getElem?_eq_getElem hi]; exact h _ (List.getElem_mem hi)
  · simp [List.getD, List.getElem?_eq_none (by omega : bs.length ≤ i)]

/-- The cells of bytes lie at an address. -/
def At (w : World) (a : Option Addr) (bs : List Nat) : Prop :=
  bs = [] ∨ ∃ b off, a = some ⟨b, off, none⟩ ∧ ∀ i, i < bs.length → w.cell? ⟨b, off + i, none⟩ = some (.int .u8 ((bs.getD i 0 : Nat) : Int))

/-- A value reads as bytes. -/
def Rd (w : World) (v : Value) (bs : List Nat) : Prop :=
  Bys bs ∧ ∃ a cap, v = .slice a bs.length cap ∧ bs.length ≤ cap ∧ cap ≤ maxLen ∧ bs.length ≤ 281474976710656 ∧ (cap = 0 ∨ ∃ b off, a = some ⟨b, off, none⟩) ∧ At w a bs

theorem At.later {w w' : World} {a : Option Addr} {bs : List Nat} (h : At w a bs) (hb : Below w.heap.size w w') : At w' a bs := by
  rcases h with h | ⟨b, off, rfl, hc⟩
  · exact .inl h
  · refine .inr ⟨b, off, rfl, fun i hi => ?_⟩
    have := hc i hi
    rw [hb.cell (p := ⟨b, off + i, none⟩) (World.block_lt_of_cell? w _ this)]
    exact this

theorem At.add {w : World} {x : Addr} {bs : List Nat} (h : At w (some x) bs) : ∀ j u, (bv bs)[j]? = some u → w.cell? (x.add j) = some u := by
  intro j u hj
  obtain ⟨hjl, rfl⟩ := bv_get bs j u hj
  rcases h with rfl | ⟨b, off, h2, hc⟩
  · simp at hjl
  · cases h2
    have : (⟨b, off, none⟩ : Addr).add j = ⟨b, off + j, none⟩ := by unfold Addr.add; split <;> simp_all
    rw [this]
    exact hc j hjl

theorem Rd.later {w w' : World} {v : Value} {bs : List Nat} (h : Rd w v bs) (hb : Below w.heap.size w w') : Rd w' v bs := by
  obtain ⟨h1, a, cap, h2, h3, h4, h5, h6, h7⟩ := h
  exact ⟨h1, a, cap, h2, h3, h4, h5, h6, h7.later hb⟩

theorem Rd.nil (w : World) : Rd w (.slice none 0 0) [] := ⟨by intro x hx; simp at hx, none, 0, rfl, Nat.le_refl _, Nat.zero_le _, by simp, .inl rfl, .inl rfl⟩
theorem Rd.zero (w : World) (a : Option Addr) : Rd w (.slice a 0 0) [] := ⟨by intro x hx; simp at hx, a, 0, rfl, Nat.le_refl _, Nat.zero_le _, by simp, .inl rfl, .inl rfl⟩

/-- What is owned reads as bytes. -/
theorem Rd.of_owns {w : World} {base n : Nat} {v : Value} {bs : List Nat} (hn : n = bs.length) (h : w.ownsRow base 5 1 v n (bv bs)) (hb : Bys bs) (hlen : n ≤ 281474976710656) : Rd w v bs := by
  subst hn
  refine ⟨hb, ?_⟩
  rcases h.2 with ⟨rfl, hn⟩ | ⟨g, cap, cur, rfl, _, hg, hle, hm, hsz, htk⟩
  · exact ⟨none, 0, by simp [hn], by omega, Nat.zero_le _, hlen, .inl rfl, .inl (List.eq_nil_of_length_eq_zero hn)⟩
  · refine ⟨_, cap, rfl, hle, hm, hlen, .inr ⟨g, 0, rfl⟩, .inr ⟨g, 0, rfl, fun i hi => ?_⟩⟩
    have hx : (bv bs)[i]? = some (.int .u8 ((bs.getD i 0 : Nat) : Int)) := by
      simp [bv, List.getElem?_eq_getElem hi]
    rw [← htk] at hx
    have hx2 : cur[i]? = some (.int .u8 ((bs.getD i 0 : Nat) : Int)) := by
      rw [List.getElem?_take_of_lt (by omega)] at hx
      simpa using hx
    simp [World.cell?, hg, hx2]

/-- A value owns its bytes, from block B on. -/
def Own (w : World) (B : Nat) (v : Value) (m : Nat) (xs : List Nat) : Prop := m = xs.length ∧ w.ownsRow B 5 1 v m (bv xs)
theorem Own.len {w : World} {B : Nat} {v : Value} {m : Nat} {xs : List Nat} (h : Own w B v m xs) : m = xs.length := h.1
theorem Own.own {w : World} {B : Nat} {v : Value} {m : Nat} {xs : List Nat} (h : Own w B v m xs) : w.ownsRow B 5 1 v xs.length (bv xs) := by rw [← h.1]; exact h.2
theorem Own.rd {w : World} {B : Nat} {v : Value} {m : Nat} {xs : List Nat} (h : Own w B v m xs) (hb : Bys xs) (hl : m ≤ 281474976710656) : Rd w v xs := Rd.of_owns h.1 h.2 hb hl
theorem Own.mono {w : World} {B B' : Nat} {v : Value} {m : Nat} {xs : List Nat} (h : Own w B v m xs) (hB : B' ≤ B) : Own w B' v m xs := by
  refine ⟨h.1, h.2.1, ?_⟩
  rcases h.2.2 with h2 | ⟨g, cap, cur, h3, h4, h5⟩
  · exact .inl h2
  · exact .inr ⟨g, cap, cur, h3, Nat.le_trans hB h4, h5⟩
theorem Own.later {w w' : World} {B : Nat} {v : Value} {m : Nat} {xs : List Nat} (h : Own w B v m xs) (hb : Below w.heap.size w w') : Own w' B v m xs := by
  refine ⟨h.1, h.2.1, ?_⟩
  rcases h.2.2 with h2 | ⟨g, cap, cur, h3, h4, h5, h6⟩
  · exact .inl h2
  · exact .inr ⟨g, cap, cur, h3, h4, by rw [hb.block g (Array.getElem?_eq_some_iff.1 h5).1]; exact h5, h6⟩
theorem own_form {w : World} {B n : Nat} {v : Value} {xs : List Value} (h : w.ownsRow B 5 1 v n xs) : ∃ a c, v = .slice a n c := by
  rcases h.2 with ⟨rfl, rfl⟩ | ⟨g, cap, cur, rfl, _⟩
  · exact ⟨_, _, rfl⟩
  · exact ⟨_, _, rfl⟩
/-- One slice is handed back, in memory from B on. -/
theorem handed {P : Program} {f : Nat} {args : Array Value} {w : World} {B : Nat} {L : List Nat}
    (h : Calls P f args w fun e w' => ∃ s, e = .returned s ∧ w'.ownsRow B 5 1 s L.length (bv L) ∧ Below B w w') :
    Calls P f args w fun e w' => ∃ a m c, e = .returned (.slice a m c) ∧ Own w' B (.slice a m c) m L ∧ Below B w w' := by
  refine h.mono ?_
  rintro e w' ⟨s, rfl, ho, hb⟩
  obtain ⟨a, c, rfl⟩ := own_form ho
  exact ⟨a, L.length, c, rfl, ⟨rfl, ho⟩, hb⟩

/-- The string of bytes. -/
def str (bs : List Nat) : ByteArray := strOfNums (bs.map fun n : Nat => (n : Int))

theorem str_inj {a b : List Nat} (ha : Bys a) (hb : Bys b) (h : str a = str b) : a = b := by
  have h2 : (a.map fun n => UInt8.ofNat n) = (b.map fun n => UInt8.ofNat n) := by
    simpa [str, strOfNums, Function.comp_def] using h
  have key : ∀ (x : List Nat), Bys x → (x.map fun n => UInt8.ofNat n).map UInt8.toNat = x := by
    intro x hx
    rw [List.map_map]
    conv => rhs; rw [← List.map_id x]
    apply List.map_congr_left
    intro n hn
    have := hx n hn
    simp [Nat.mod_eq_of_lt this]
  rw [← key a ha, ← key b hb, h2]

theorem conv_none (w : World) (a : Option Addr) (c : Nat) : (convert 23 9 (.slice a 0 c)).run Tryd.prog w = .ok (.string (str [])) w := by
  rw [run_convert_bytes_string w _ _ _ a 0 c und_bytes und_byte und_string]
  unfold Conv.bytesToString
  cases a with
  | none => rfl
  | some x => rfl
theorem conv_str {w : World} {v : Value} {bs : List Nat} (h : Rd w v bs) : (convert 23 9 v).run Tryd.prog w = .ok (.string (str bs)) w := by
  obtain ⟨_, a, cap, rfl, hle, hm, _, hn, ha⟩ := h
  rcases ha with rfl | ⟨b, off, rfl, hc⟩
  · exact conv_none w a cap
  · refine run_convert_bytes_arg w _ _ und_bytes und_byte b off _ cap _ (by simp) (fun i hi => ?_) _ und_string
    rw [hc i hi]
    simp [List.getElem?_eq_getElem hi]

theorem beq_str {a b : List Nat} (ha : Bys a) (hb : Bys b) : ((str a).toList == (str b).toList) = decide (a = b) := by
  rw [ByteArray.toList_eq, ByteArray.toList_eq]
  by_cases h : a = b
  · subst h; simp
  · have h2 : str a ≠ str b := fun e => h (str_inj ha hb e)
    have h3 : (str a).data.toList ≠ (str b).data.toList := by
      intro e
      apply h2
      have e2 := Array.toList_inj.1 e
      cases hx : str a; cases hy : str b
      rw [hx, hy] at e2
      simp_all
    simp [h]
    simpa using h3

set_option maxRecDepth 100000 in
theorem num_any (n : Int) (w : World) : Calls Tryd.prog 28 #[.int .i64 n] w fun e w' => e = .returned (.int .i64 n) ∧ w' = w := by
  go_enter Tryd.func28, Tryd.ntmps28
  go_wp2
  go_ret
  exact ⟨rfl, rfl⟩

set_option maxRecDepth 100000 in
theorem same_any {a b : Value} {xs ys : List Nat} {w : World} (ha : Rd w a xs) (hb : Rd w b ys) :
    Calls Tryd.prog 12 #[a, b] w fun e w' => e = .returned (.bool (decide (xs = ys))) ∧ w' = w := by
  have h1 := conv_str ha
  have h2 := conv_str hb
  go_enter Tryd.func12, Tryd.ntmps12
  go_wp2
  go_ret
  exact ⟨by rw [← beq_str ha.1 hb.1]; rfl, rfl⟩

set_option maxRecDepth 100000 in
theorem outside_any {a : Option Addr} {n cap : Nat} (i : Int) {w : World} (_hn : n ≤ 281474976710656) :
    Calls Tryd.prog 48 #[.slice a n cap, .int .i64 i] w fun e w' => e = .returned (.bool (decide (i < 0 ∨ (n : Int) < i))) ∧ w' = w := by
  by_cases h1 : i < 0
  · have hd : decide (i < 0) = true := by simpa using h1
    have h2 : decide (i < 0 ∨ (n : Int) < i) = true := by simp [h1]
    go_enter Tryd.func48, Tryd.ntmps48
    go_wp2
    go_ret
    exact ⟨by first | rfl | (rw [h2]; rfl), rfl⟩
  · have hd : decide (i < 0) = false := by simpa using h1
    go_enter Tryd.func48, Tryd.ntmps48
    go_wp2
    go_ret
    exact ⟨rfl, rfl⟩

end Go.Proofs.YtledfniedoapiaaDoor
