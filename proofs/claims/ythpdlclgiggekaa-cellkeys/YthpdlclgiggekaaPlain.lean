import Derived.Laws.BitsAllLaws
import Derived.RowKit
namespace Go.Proofs.Ythpdlclgiggekaa
open Go.RowKit
set_option linter.unusedVariables false

/-- A number in groups of seven bits, the lowest first; at most f + 1 groups. -/
def uintF : Nat → Nat → List Nat
  | 0, v => [v]
  | f + 1, v => if 127 < v then (v % 128 + 128) :: uintF f (v / 128) else [v]
def uintL (v : Nat) : List Nat := uintF 9 v

theorem uintF_stop (f v : Nat) (h : v ≤ 127) : uintF f v = [v] := by
  cases f with
  | zero => rfl
  | succ f => simp [uintF]; omega
theorem uintF_go (f v : Nat) (h : 127 < v) : uintF (f + 1) v = (v % 128 + 128) :: uintF f (v / 128) := by simp [uintF, h]

theorem grp (v : Nat) (h : v < 18446744073709551616) : bits .or .u8 (bits .and .u64 (v : Int) 127 % 256) 128 = ((v % 128 + 128 : Nat) : Int) := by
  have h1 : bits .and .u64 (v : Int) 127 = ((v % 128 : Nat) : Int) := by
    have := u64_and_nat v 127 h (by omega)
    rw [nat_mask7] at this
    exact_mod_cast this
  rw [h1]
  have h2 : ((v % 128 : Nat) : Int) % 256 = ((v % 128 : Nat) : Int) := by omega
  rw [h2]
  have := u8_or_nat (v % 128) 128 (by omega) (by omega)
  rw [Nat.or_comm, nat_join 7 128 (v % 128) (by decide) (by omega)] at this
  rw [show ((128 : Int)) = ((128 : Nat) : Int) from rfl, this]
  omega

/-- What half a byte makes of the sum. -/
def tab : List Nat := [0, 274646895, 549293790, 820201905, 1098587580, 1361435347, 1640403810, 1905808397, 2197175160, 2460548119, 2722870694, 2987750089, 3280807620, 3553878443, 3811616794, 4084100981]
def half (r : Nat) : Nat := (r / 16) ^^^ tab.getD (r % 16) 0
def crcB (r c : Nat) : Nat := half (half (r ^^^ c))
def crcL (r : Nat) (bs : List Nat) : Nat := bs.foldl crcB r
def sumL (bs : List Nat) : Nat := 4294967295 - crcL 4294967295 bs

theorem tab_lt (i : Nat) : tab.getD i 0 < 4294967296 := by
  by_cases h : i < 16
  · have : ∀ j, j < 16 → tab.getD j 0 < 4294967296 := by decide
    exact this i h
  · have : tab.getD i 0 = 0 := by simp [List.getD, List.getElem?_eq_none (show tab.length ≤ i by simp [tab]; omega)]
    omega
theorem half_lt (r : Nat) (h : r < 4294967296) : half r < 4294967296 := by
  have h1 : r / 16 < 2 ^ 32 := by omega
  have h2 : tab.getD (r % 16) 0 < 2 ^ 32 := tab_lt _
  exact Nat.xor_lt_two_pow h1 h2
theorem xor_lt (r c : Nat) (h : r < 4294967296) (hc : c < 256) : r ^^^ c < 4294967296 := by
  have h1 : r < 2 ^ 32 := h
  have h2 : c < 2 ^ 32 := by omega
  exact Nat.xor_lt_two_pow h1 h2
theorem crcB_lt (r c : Nat) (h : r < 4294967296) (hc : c < 256) : crcB r c < 4294967296 := half_lt _ (half_lt _ (xor_lt r c h hc))
theorem crcL_lt (bs : List Nat) (hb : ∀ x ∈ bs, x < 256) : ∀ r, r < 4294967296 → crcL r bs < 4294967296 := by
  induction bs with
  | nil => intro r h; exact h
  | cons c bs ih => intro r h; exact ih (fun x hx => hb x (by simp [hx])) _ (crcB_lt r c h (hb c (by simp)))
theorem crcL_append (r : Nat) (a b : List Nat) : crcL r (a ++ b) = crcL (crcL r a) b := by simp [crcL, List.foldl_append]
theorem crcL_snoc (r : Nat) (a : List Nat) (c : Nat) : crcL r (a ++ [c]) = crcB (crcL r a) c := by simp [crcL, List.foldl_append]
theorem and15 (r : Nat) (h : r < 4294967296) : bits .and .u32 (r : Int) 15 = ((r % 16 : Nat) : Int) := by
  have := u32_and_nat r 15 h (by omega)
  rw [nat_mask4] at this
  exact this
theorem xor32 (a b : Nat) (ha : a < 4294967296) (hb : b < 4294967296) : bits .xor .u32 (a : Int) (b : Int) = ((a ^^^ b : Nat) : Int) := u32_xor_nat a b ha hb
theorem xor32d (a b : Nat) (ha : a < 4294967296) (hb : b < 4294967296) : bits .xor .u32 ((a : Int) / 16) (b : Int) = (((a / 16) ^^^ b : Nat) : Int) := by
  have := u32_xor_nat (a / 16) b (by omega) hb
  rw [show ((a : Int) / 16) = ((a / 16 : Nat) : Int) by omega]
  exact this
theorem nat_not32 (r : Nat) (h : r < 4294967296) : 4294967295 ^^^ r = 4294967295 - r := by
  apply Nat.eq_of_testBit_eq
  intro i
  rw [Nat.testBit_xor]
  have h1 : Nat.testBit 4294967295 i = decide (i < 32) := Nat.testBit_two_pow_sub_one 32 i
  have h2 : Nat.testBit (4294967295 - r) i = (decide (i < 32) && !Nat.testBit r i) := by
    have := Nat.testBit_two_pow_sub_succ (x := r) (n := 32) h i
    rw [show (4294967295 - r) = 2 ^ 32 - (r + 1) by omega]
    exact this
  rw [h1, h2]
  by_cases hi : i < 32
  · simp [hi]
  · have h3 : Nat.testBit r i = false := Nat.testBit_lt_two_pow (Nat.lt_of_lt_of_le h (Nat.pow_le_pow_right (n := 2) (i := 32) (j := i) (by omega) (by omega)))
    simp [hi, h3]
theorem not32 (r : Nat) (h : r < 4294967296) : bits .xor .u32 IntKind.u32.max (r : Int) = ((4294967295 - r : Nat) : Int) := by
  rw [show IntKind.u32.max = ((4294967295 : Nat) : Int) by decide, u32_xor_nat _ r (by omega) h, nat_not32 r h]
/-- What four bytes say, the lowest first. -/
def rdle (a b c d : Nat) : Nat := a + 256 * b + 65536 * c + 16777216 * d
theorem rdle_lt (a b c d : Nat) (ha : a < 256) (hb : b < 256) (hc : c < 256) (hd : d < 256) : rdle a b c d < 4294967296 := by unfold rdle; omega
theorem or32 (a b : Nat) (ha : a < 4294967296) (hb : b < 4294967296) (x y : Int) (hx : x = (a : Int)) (hy : y = (b : Int)) : bits .or .u32 x y = ((a ||| b : Nat) : Int) := by
  subst hx; subst hy; exact u32_or_nat a b ha hb
theorem ori64 (a b : Nat) (ha : a < 4611686018427387904) (hb : b < 4611686018427387904) (x y : Int) (hx : x = (a : Int)) (hy : y = (b : Int)) : bits .or .i64 x y = ((a ||| b : Nat) : Int) := by
  subst hx; subst hy
  have hz : a ||| b < 2 ^ 62 := Nat.or_lt_two_pow (by omega) (by omega)
  show IntKind.i64.wrap ((BitVec.ofInt 64 (a : Int) ||| BitVec.ofInt 64 (b : Int)).toNat : Int) = _
  rw [BitVec.toNat_or, ofInt_u64 a (by omega), ofInt_u64 b (by omega)]
  simp only [IntKind.wrap, IntKind.bits, IntKind.signed]
  simp
  omega
theorem chain_le (a b c d : Nat) (ha : a < 256) (hb : b < 256) (hc : c < 256) (hd : d < 256) : ((a ||| b * 256) ||| c * 65536) ||| d * 16777216 = rdle a b c d := by
  have h1 : a ||| b * 256 = a + b * 256 := by rw [Nat.or_comm, nat_join 8 (b * 256) a (by omega) (by omega)]; omega
  have h2 : (a + b * 256) ||| c * 65536 = a + b * 256 + c * 65536 := by rw [Nat.or_comm, nat_join 16 (c * 65536) _ (by omega) (by omega)]; omega
  have h3 : (a + b * 256 + c * 65536) ||| d * 16777216 = a + b * 256 + c * 65536 + d * 16777216 := by rw [Nat.or_comm, nat_join 24 (d * 16777216) _ (by omega) (by omega)]; omega
  rw [h1, h2, h3]; unfold rdle; omega
theorem chain_be (a b c d : Nat) (ha : a < 256) (hb : b < 256) (hc : c < 256) (hd : d < 256) : ((d * 16777216 ||| c * 65536) ||| b * 256) ||| a = rdle a b c d := by
  have h1 : d * 16777216 ||| c * 65536 = d * 16777216 + c * 65536 := nat_join 24 _ _ (by omega) (by omega)
  have h2 : (d * 16777216 + c * 65536) ||| b * 256 = d * 16777216 + c * 65536 + b * 256 := nat_join 16 _ _ (by omega) (by omega)
  have h3 : (d * 16777216 + c * 65536 + b * 256) ||| a = d * 16777216 + c * 65536 + b * 256 + a := nat_join 8 _ _ (by omega) (by omega)
  rw [h1, h2, h3]; unfold rdle; omega
theorem chain32 (a b c d : Nat) (ha : a < 256) (hb : b < 256) (hc : c < 256) (hd : d < 256) :
    bits .or .u32 (bits .or .u32 (bits .or .u32 (a : Int) ((b : Int) * 256)) ((c : Int) * 65536)) ((d : Int) * 16777216) = ((rdle a b c d : Nat) : Int) := by
  have e1 := or32 a (b * 256) (by omega) (by omega) (a : Int) ((b : Int) * 256) rfl (by omega)
  have l1 : a ||| b * 256 < 4294967296 := Nat.or_lt_two_pow (n := 32) (by omega) (by omega)
  have e2 := or32 (a ||| b * 256) (c * 65536) l1 (by omega) _ ((c : Int) * 65536) e1 (by omega)
  have l2 : (a ||| b * 256) ||| c * 65536 < 4294967296 := Nat.or_lt_two_pow (n := 32) l1 (by omega)
  have e3 := or32 _ (d * 16777216) l2 (by omega) _ ((d : Int) * 16777216) e2 (by omega)
  rw [e3, chain_le a b c d ha hb hc hd]
theorem chaini64 (a b c d : Nat) (ha : a < 256) (hb : b < 256) (hc : c < 256) (hd : d < 256) :
    bits .or .i64 (bits .or .i64 (bits .or .i64 ((d : Int) * 16777216) ((c : Int) * 65536)) ((b : Int) * 256)) (a : Int) = ((rdle a b c d : Nat) : Int) := by
  have e1 := ori64 (d * 16777216) (c * 65536) (by omega) (by omega) ((d : Int) * 16777216) ((c : Int) * 65536) (by omega) (by omega)
  have l1 : d * 16777216 ||| c * 65536 < 4611686018427387904 := Nat.or_lt_two_pow (n := 62) (by omega) (by omega)
  have e2 := ori64 (d * 16777216 ||| c * 65536) (b * 256) l1 (by omega) _ ((b : Int) * 256) e1 (by omega)
  have l2 : (d * 16777216 ||| c * 65536) ||| b * 256 < 4611686018427387904 := Nat.or_lt_two_pow (n := 62) l1 (by omega)
  have e3 := ori64 _ a l2 (by omega) _ (a : Int) e2 rfl
  rw [e3, chain_be a b c d ha hb hc hd]
theorem take_succ_getD (bs : List Nat) (k : Nat) (h : k < bs.length) : bs.take (k + 1) = bs.take k ++ [bs.getD k 0] := by
  rw [List.take_succ_eq_append_getElem h]; simp [List.getD, List.getElem?_eq_getElem h]

end Go.Proofs.Ythpdlclgiggekaa
