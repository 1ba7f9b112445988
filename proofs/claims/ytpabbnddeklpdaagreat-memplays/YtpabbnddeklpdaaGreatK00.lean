import Derived.Test.YtpabbnddeklpdaaGreatProg
import Derived.WalkKit
import Derived.WalkSpells
import Derived.WalkLawsBesides
import Derived.Laws.BytesArg
import Derived.Laws.BitsAllLaws
import Derived.RowKit
import Derived.Deep.QuietTactic
import Derived.BigQuiet
import Derived.Laws.AppendOwnNone
namespace Go.Proofs.YtpabbnddeklpdaaGreat
open Go.RowKit
set_option linter.unusedVariables false

theorem und_bytes : Tryz.prog.underlying 34 = some (.slice 5) := by kernel_rfl
theorem und_byte : Tryz.prog.underlying 5 = some (.int .u8) := by kernel_rfl
theorem und_string : Tryz.prog.underlying 9 = some .string := by kernel_rfl
theorem und_parts : Tryz.prog.underlying 33 = some (.slice 34) := by kernel_rfl
theorem info_byte : (Tryz.prog.info? 5).map (fun i => (i.zero, i.size, i.bytes)) = some (some (.int .u8 0), 1, 1) := by kernel_rfl

def bv (bs : List Nat) : List Value := bs.map fun n : Nat => Value.int .u8 (n : Int)

theorem bv_length (bs : List Nat) : (bv bs).length = bs.length := by simp [bv]
theorem bv_append (a b : List Nat) : bv (a ++ b) = bv a ++ bv b := by simp [bv]
theorem bv_oneCell (bs : List Nat) : ∀ u ∈ bv bs, u.oneCell' = true := by
 intro u hu
 simp only [bv, List.mem_map] at hu
 obtain ⟨n, _, rfl⟩ := hu
 rfl
theorem bv_get (bs : List Nat) (j : Nat) (u : Value) (h : (bv bs)[j]? = some u) : j < bs.length ∧ u = .int .u8 ((bs.getD j 0 : Nat) : Int) := by
 simp only [bv, List.getElem?_map, Option.map_eq_some_iff] at h
 obtain ⟨n, hn, rfl⟩ := h
 obtain ⟨hj, rfl⟩ := List.getElem?_eq_some_iff.1 hn
 exact ⟨hj, by simp [List.getD, List.getElem?_eq_getElem hj]⟩

def Bys (bs : List Nat) : Prop := ∀ x ∈ bs, x < 256

theorem Bys.get {bs : List Nat} (h : Bys bs) (i : Nat) : bs.getD i 0 < 256 := by
 by_cases hi : i < bs.length
 ·simp [List.getD, List.getElem?_eq_getElem hi]; exact h _ (List.getElem_mem hi)
 ·simp [List.getD, List.getElem?_eq_none (by omega : bs.length ≤ i)]

def At (w : World) (a : Option Addr) (bs : List Nat) : Prop :=
 bs = [] ∨ ∃ b off, a = some ⟨b, off, none⟩ ∧ ∀ i, i < bs.length → w.cell? ⟨b, off + i, none⟩ = some (.int .u8 ((bs.getD i 0 : Nat) : Int))

def Rd (w : World) (v : Value) (bs : List Nat) : Prop :=
 Bys bs ∧ ∃ a cap, v = .slice a bs.length cap ∧ bs.length ≤ cap ∧ cap ≤ maxLen ∧ bs.length ≤ 281474976710656 ∧ (cap = 0 ∨ ∃ b off, a = some ⟨b, off, none⟩) ∧ At w a bs

theorem At.later {w w' : World} {a : Option Addr} {bs : List Nat} (h : At w a bs) (hb : Below w.heap.size w w') : At w' a bs := by
 rcases h with h | ⟨b, off, rfl, hc⟩
 ·exact .inl h
 ·refine .inr ⟨b, off, rfl, fun i hi => ?_⟩
  have := hc i hi
  rw [hb.cell (p := ⟨b, off + i, none⟩) (World.block_lt_of_cell? w _ this)]
  exact this

theorem At.add {w : World} {x : Addr} {bs : List Nat} (h : At w (some x) bs) : ∀ j u, (bv bs)[j]? = some u → w.cell? (x.add j) = some u := by
 intro j u hj
 obtain ⟨hjl, rfl⟩ := bv_get bs j u hj
 rcases h with rfl | ⟨b, off, h2, hc⟩
 ·simp at hjl
 ·cases h2
  have : (⟨b, off, none⟩ : Addr).add j = ⟨b, off + j, none⟩ := by unfold Addr.add; split <;> simp_all
  rw [this]
  exact hc j hjl

theorem Rd.later {w w' : World} {v : Value} {bs : List Nat} (h : Rd w v bs) (hb : Below w.heap.size w w') : Rd w' v bs := by
 obtain ⟨h1, a, cap, h2, h3, h4, h5, h6, h7⟩ := h
 exact ⟨h1, a, cap, h2, h3, h4, h5, h6, h7.later hb⟩

theorem Rd.nil (w : World) : Rd w (.slice none 0 0) [] := ⟨by intro x hx; simp at hx, none, 0, rfl, Nat.le_refl _, Nat.zero_le _, by simp, .inl rfl, .inl rfl⟩
theorem Rd.zero (w : World) (a : Option Addr) : Rd w (.slice a 0 0) [] := ⟨by intro x hx; simp at hx, a, 0, rfl, Nat.le_refl _, Nat.zero_le _, by simp, .inl rfl, .inl rfl⟩

theorem Rd.of_owns {w : World} {base n : Nat} {v : Value} {bs : List Nat} (hn : n = bs.length) (h : w.ownsRow base 5 1 v n (bv bs)) (hb : Bys bs) (hlen : n ≤ 281474976710656) : Rd w v bs := by
 subst hn
 refine ⟨hb, ?_⟩
 rcases h.2 with ⟨rfl, hn⟩ | ⟨g, cap, cur, rfl, _, hg, hle, hm, hsz, htk⟩
 ·exact ⟨none, 0, by simp [hn], by omega, Nat.zero_le _, hlen, .inl rfl, .inl (List.eq_nil_of_length_eq_zero hn)⟩
 ·refine ⟨_, cap, rfl, hle, hm, hlen, .inr ⟨g, 0, rfl⟩, .inr ⟨g, 0, rfl, fun i hi => ?_⟩⟩
  have hx : (bv bs)[i]? = some (.int .u8 ((bs.getD i 0 : Nat) : Int)) := by
   simp [bv, List.getElem?_eq_getElem hi]
  rw [← htk] at hx
  have hx2 : cur[i]? = some (.int .u8 ((bs.getD i 0 : Nat) : Int)) := by
   rw [List.getElem?_take_of_lt (by omega)] at hx
   simpa using hx
  simp [World.cell?, hg, hx2]

def Own (w : World) (B : Nat) (v : Value) (m : Nat) (xs : List Nat) : Prop := m = xs.length ∧ w.ownsRow B 5 1 v m (bv xs)
theorem Own.len {w : World} {B : Nat} {v : Value} {m : Nat} {xs : List Nat} (h : Own w B v m xs) : m = xs.length := h.1
theorem Own.own {w : World} {B : Nat} {v : Value} {m : Nat} {xs : List Nat} (h : Own w B v m xs) : w.ownsRow B 5 1 v xs.length (bv xs) := by rw [← h.1]; exact h.2
theorem Own.rd {w : World} {B : Nat} {v : Value} {m : Nat} {xs : List Nat} (h : Own w B v m xs) (hb : Bys xs) (hl : m ≤ 281474976710656) : Rd w v xs := Rd.of_owns h.1 h.2 hb hl
theorem Own.mono {w : World} {B B' : Nat} {v : Value} {m : Nat} {xs : List Nat} (h : Own w B v m xs) (hB : B' ≤ B) : Own w B' v m xs := by
 refine ⟨h.1, h.2.1, ?_⟩
 rcases h.2.2 with h2 | ⟨g, cap, cur, h3, h4, h5⟩
 ·exact .inl h2
 ·exact .inr ⟨g, cap, cur, h3, Nat.le_trans hB h4, h5⟩
theorem Own.later {w w' : World} {B : Nat} {v : Value} {m : Nat} {xs : List Nat} (h : Own w B v m xs) (hb : Below w.heap.size w w') : Own w' B v m xs := by
 refine ⟨h.1, h.2.1, ?_⟩
 rcases h.2.2 with h2 | ⟨g, cap, cur, h3, h4, h5, h6⟩
 ·exact .inl h2
 ·exact .inr ⟨g, cap, cur, h3, h4, by rw [hb.block g (Array.getElem?_eq_some_iff.1 h5).1]; exact h5, h6⟩
theorem own_form {w : World} {B n : Nat} {v : Value} {xs : List Value} (h : w.ownsRow B 5 1 v n xs) : ∃ a c, v = .slice a n c := by
 rcases h.2 with ⟨rfl, rfl⟩ | ⟨g, cap, cur, rfl, _⟩
 ·exact ⟨_, _, rfl⟩
 ·exact ⟨_, _, rfl⟩
theorem handed {P : Program} {f : Nat} {args : Array Value} {w : World} {B : Nat} {L : List Nat}
  (h : Calls P f args w fun e w' => ∃ s, e = .returned s ∧ w'.ownsRow B 5 1 s L.length (bv L) ∧ Below B w w') :
  Calls P f args w fun e w' => ∃ a m c, e = .returned (.slice a m c) ∧ Own w' B (.slice a m c) m L ∧ Below B w w' := by
 refine h.mono ?_
 rintro e w' ⟨s, rfl, ho, hb⟩
 obtain ⟨a, c, rfl⟩ := own_form ho
 exact ⟨a, L.length, c, rfl, ⟨rfl, ho⟩, hb⟩

def str (bs : List Nat) : ByteArray := strOfNums (bs.map fun n : Nat => (n : Int))

theorem str_inj {a b : List Nat} (ha : Bys a) (hb : Bys b) (h : str a = str b) : a = b := by
 have h2 : (a.map fun n => UInt8.ofNat n) = (b.map fun n => UInt8.ofNat n) := by
  simpa [str, strOfNums, Function.comp_def] using h
 have key : ∀ (x : List Nat), Bys x → (x.map fun n => UInt8.ofNat n).map UInt8.toNat = x := by
  intro x hx
  rw [List.map_map]
  conv => rhs; rw [← List.map_id x]
  apply List.map_congr_left
  intro n hn
  have := hx n hn
  simp [Nat.mod_eq_of_lt this]
 rw [← key a ha, ← key b hb, h2]

theorem conv_none (w : World) (a : Option Addr) (c : Nat) : (convert 34 9 (.slice a 0 c)).run Tryz.prog w = .ok (.string (str [])) w := by
 rw [run_convert_bytes_string w _ _ _ a 0 c und_bytes und_byte und_string]
 unfold Conv.bytesToString
 cases a with
 | none => rfl
 | some x => rfl
theorem conv_str {w : World} {v : Value} {bs : List Nat} (h : Rd w v bs) : (convert 34 9 v).run Tryz.prog w = .ok (.string (str bs)) w := by
 obtain ⟨_, a, cap, rfl, hle, hm, _, hn, ha⟩ := h
 rcases ha with rfl | ⟨b, off, rfl, hc⟩
 ·exact conv_none w a cap
 ·refine run_convert_bytes_arg w _ _ und_bytes und_byte b off _ cap _ (by simp) (fun i hi => ?_) _ und_string
  rw [hc i hi]
  simp [List.getElem?_eq_getElem hi]

theorem beq_str {a b : List Nat} (ha : Bys a) (hb : Bys b) : ((str a).toList == (str b).toList) = decide (a = b) := by
 rw [ByteArray.toList_eq, ByteArray.toList_eq]
 by_cases h : a = b
 ·subst h; simp
 ·have h2 : str a ≠ str b := fun e => h (str_inj ha hb e)
  have h3 : (str a).data.toList ≠ (str b).data.toList := by
   intro e
   apply h2
   have e2 := Array.toList_inj.1 e
   cases hx : str a; cases hy : str b
   rw [hx, hy] at e2
   simp_all
  simp [h]
  simpa using h3

end Go.Proofs.YtpabbnddeklpdaaGreat

namespace Go.Proofs.YtpabbnddeklpdaaGreat
open Go.RowKit
set_option linter.unusedVariables false

def uintF : Nat → Nat → List Nat
 | 0, v => [v]
 | f + 1, v => if 127 < v then (v % 128 + 128) :: uintF f (v / 128) else [v]
def uintL (v : Nat) : List Nat := uintF 9 v

theorem uintF_stop (f v : Nat) (h : v ≤ 127) : uintF f v = [v] := by
 cases f with
 | zero => rfl
 | succ f => simp [uintF]; omega
theorem uintF_go (f v : Nat) (h : 127 < v) : uintF (f + 1) v = (v % 128 + 128) :: uintF f (v / 128) := by simp [uintF, h]

theorem grp (v : Nat) (h : v < 18446744073709551616) : bits .or .u8 (bits .and .u64 (v : Int) 127 % 256) 128 = ((v % 128 + 128 : Nat) : Int) := by
 have h1 : bits .and .u64 (v : Int) 127 = ((v % 128 : Nat) : Int) := by
  have := u64_and_nat v 127 h (by omega)
  rw [nat_mask7] at this
  exact_mod_cast this
 rw [h1]
 have h2 : ((v % 128 : Nat) : Int) % 256 = ((v % 128 : Nat) : Int) := by omega
 rw [h2]
 have := u8_or_nat (v % 128) 128 (by omega) (by omega)
 rw [Nat.or_comm, nat_join 7 128 (v % 128) (by decide) (by omega)] at this
 rw [show ((128 : Int)) = ((128 : Nat) : Int) from rfl, this]
 omega

def tab : List Nat := [0, 274646895, 549293790, 820201905, 1098587580, 1361435347, 1640403810, 1905808397, 2197175160, 2460548119, 2722870694, 2987750089, 3280807620, 3553878443, 3811616794, 4084100981]
def half (r : Nat) : Nat := (r / 16) ^^^ tab.getD (r % 16) 0
def crcB (r c : Nat) : Nat := half (half (r ^^^ c))
def crcL (r : Nat) (bs : List Nat) : Nat := bs.foldl crcB r
def sumL (bs : List Nat) : Nat := 4294967295 - crcL 4294967295 bs

theorem tab_lt (i : Nat) : tab.getD i 0 < 4294967296 := by
 by_cases h : i < 16
 ·have : ∀ j, j < 16 → tab.getD j 0 < 4294967296 := by decide
  exact this i h
 ·have : tab.getD i 0 = 0 := by simp [List.getD, List.getElem?_eq_none (show tab.length ≤ i by simp [tab]; omega)]
  omega
theorem half_lt (r : Nat) (h : r < 4294967296) : half r < 4294967296 := by
 have h1 : r / 16 < 2 ^ 32 := by omega
 have h2 : tab.getD (r % 16) 0 < 2 ^ 32 := tab_lt _
 exact Nat.xor_lt_two_pow h1 h2
theorem xor_lt (r c : Nat) (h : r < 4294967296) (hc : c < 256) : r ^^^ c < 4294967296 := by
 have h1 : r < 2 ^ 32 := h
 have h2 : c < 2 ^ 32 := by omega
 exact Nat.xor_lt_two_pow h1 h2
theorem crcB_lt (r c : Nat) (h : r < 4294967296) (hc : c < 256) : crcB r c < 4294967296 := half_lt _ (half_lt _ (xor_lt r c h hc))
theorem crcL_lt (bs : List Nat) (hb : ∀ x ∈ bs, x < 256) : ∀ r, r < 4294967296 → crcL r bs < 4294967296 := by
 induction bs with
 | nil => intro r h; exact h
 | cons c bs ih => intro r h; exact ih (fun x hx => hb x (by simp [hx])) _ (crcB_lt r c h (hb c (by simp)))
theorem crcL_append (r : Nat) (a b : List Nat) : crcL r (a ++ b) = crcL (crcL r a) b := by simp [crcL, List.foldl_append]
theorem crcL_snoc (r : Nat) (a : List Nat) (c : Nat) : crcL r (a ++ [c]) = crcB (crcL r a) c := by simp [crcL, List.foldl_append]
theorem and15 (r : Nat) (h : r < 4294967296) : bits .and .u32 (r : Int) 15 = ((r % 16 : Nat) : Int) := by
 have := u32_and_nat r 15 h (by omega)
 rw [nat_mask4] at this
 exact this
theorem xor32 (a b : Nat) (ha : a < 4294967296) (hb : b < 4294967296) : bits .xor .u32 (a : Int) (b : Int) = ((a ^^^ b : Nat) : Int) := u32_xor_nat a b ha hb
theorem xor32d (a b : Nat) (ha : a < 4294967296) (hb : b < 4294967296) : bits .xor .u32 ((a : Int) / 16) (b : Int) = (((a / 16) ^^^ b : Nat) : Int) := by
 have := u32_xor_nat (a / 16) b (by omega) hb
 rw [show ((a : Int) / 16) = ((a / 16 : Nat) : Int) by omega]
 exact this
theorem nat_not32 (r : Nat) (h : r < 4294967296) : 4294967295 ^^^ r = 4294967295 - r := by
 apply Nat.eq_of_testBit_eq
 intro i
 rw [Nat.testBit_xor]
 have h1 : Nat.testBit 4294967295 i = decide (i < 32) := Nat.testBit_two_pow_sub_one 32 i
 have h2 : Nat.testBit (4294967295 - r) i = (decide (i < 32) && !Nat.testBit r i) := by
  have := Nat.testBit_two_pow_sub_succ (x := r) (n := 32) h i
  rw [show (4294967295 - r) = 2 ^ 32 - (r + 1) by omega]
  exact this
 rw [h1, h2]
 by_cases hi : i < 32
 ·simp [hi]
 ·have h3 : Nat.testBit r i = false := Nat.testBit_lt_two_pow (Nat.lt_of_lt_of_le h (Nat.pow_le_pow_right (n := 2) (i := 32) (j := i) (by omega) (by omega)))
  simp [hi, h3]
theorem not32 (r : Nat) (h : r < 4294967296) : bits .xor .u32 IntKind.u32.max (r : Int) = ((4294967295 - r : Nat) : Int) := by
 rw [show IntKind.u32.max = ((4294967295 : Nat) : Int) by decide, u32_xor_nat _ r (by omega) h, nat_not32 r h]
def rdle (a b c d : Nat) : Nat := a + 256 * b + 65536 * c + 16777216 * d
theorem rdle_lt (a b c d : Nat) (ha : a < 256) (hb : b < 256) (hc : c < 256) (hd : d < 256) : rdle a b c d < 4294967296 := by unfold rdle; omega
theorem or32 (a b : Nat) (ha : a < 4294967296) (hb : b < 4294967296) (x y : Int) (hx : x = (a : Int)) (hy : y = (b : Int)) : bits .or .u32 x y = ((a ||| b : Nat) : Int) := by
 subst hx; subst hy; exact u32_or_nat a b ha hb
theorem ori64 (a b : Nat) (ha : a < 4611686018427387904) (hb : b < 4611686018427387904) (x y : Int) (hx : x = (a : Int)) (hy : y = (b : Int)) : bits .or .i64 x y = ((a ||| b : Nat) : Int) := by
 subst hx; subst hy
 have hz : a ||| b < 2 ^ 62 := Nat.or_lt_two_pow (by omega) (by omega)
 show IntKind.i64.wrap ((BitVec.ofInt 64 (a : Int) ||| BitVec.ofInt 64 (b : Int)).toNat : Int) = _
 rw [BitVec.toNat_or, ofInt_u64 a (by omega), ofInt_u64 b (by omega)]
 simp only [IntKind.wrap, IntKind.bits, IntKind.signed]
 simp
 omega
theorem chain_le (a b c d : Nat) (ha : a < 256) (hb : b < 256) (hc : c < 256) (hd : d < 256) : ((a ||| b * 256) ||| c * 65536) ||| d * 16777216 = rdle a b c d := by
 have h1 : a ||| b * 256 = a + b * 256 := by rw [Nat.or_comm, nat_join 8 (b * 256) a (by omega) (by omega)]; omega
 have h2 : (a + b * 256) ||| c * 65536 = a + b * 256 + c * 65536 := by rw [Nat.or_comm, nat_join 16 (c * 65536) _ (by omega) (by omega)]; omega
 have h3 : (a + b * 256 + c * 65536) ||| d * 16777216 = a + b * 256 + c * 65536 + d * 16777216 := by rw [Nat.or_comm, nat_join 24 (d * 16777216) _ (by omega) (by omega)]; omega
 rw [h1, h2, h3]; unfold rdle; omega
theorem chain_be (a b c d : Nat) (ha : a < 256) (hb : b < 256) (hc : c < 256) (hd : d < 256) : ((d * 16777216 ||| c * 65536) ||| b * 256) ||| a = rdle a b c d := by
 have h1 : d * 16777216 ||| c * 65536 = d * 16777216 + c * 65536 := nat_join 24 _ _ (by omega) (by omega)
 have h2 : (d * 16777216 + c * 65536) ||| b * 256 = d * 16777216 + c * 65536 + b * 256 := nat_join 16 _ _ (by omega) (by omega)
 have h3 : (d * 16777216 + c * 65536 + b * 256) ||| a = d * 16777216 + c * 65536 + b * 256 + a := nat_join 8 _ _ (by omega) (by omega)
 rw [h1, h2, h3]; unfold rdle; omega
theorem chain32 (a b c d : Nat) (ha : a < 256) (hb : b < 256) (hc : c < 256) (hd : d < 256) :
  bits .or .u32 (bits .or .u32 (bits .or .u32 (a : Int) ((b : Int) * 256)) ((c : Int) * 65536)) ((d : Int) * 16777216) = ((rdle a b c d : Nat) : Int) := by
 have e1 := or32 a (b * 256) (by omega) (by omega) (a : Int) ((b : Int) * 256) rfl (by omega)
 have l1 : a ||| b * 256 < 4294967296 := Nat.or_lt_two_pow (n := 32) (by omega) (by omega)
 have e2 := or32 (a ||| b * 256) (c * 65536) l1 (by omega) _ ((c : Int) * 65536) e1 (by omega)
 have l2 : (a ||| b * 256) ||| c * 65536 < 4294967296 := Nat.or_lt_two_pow (n := 32) l1 (by omega)
 have e3 := or32 _ (d * 16777216) l2 (by omega) _ ((d : Int) * 16777216) e2 (by omega)
 rw [e3, chain_le a b c d ha hb hc hd]
theorem chaini64 (a b c d : Nat) (ha : a < 256) (hb : b < 256) (hc : c < 256) (hd : d < 256) :
  bits .or .i64 (bits .or .i64 (bits .or .i64 ((d : Int) * 16777216) ((c : Int) * 65536)) ((b : Int) * 256)) (a : Int) = ((rdle a b c d : Nat) : Int) := by
 have e1 := ori64 (d * 16777216) (c * 65536) (by omega) (by omega) ((d : Int) * 16777216) ((c : Int) * 65536) (by omega) (by omega)
 have l1 : d * 16777216 ||| c * 65536 < 4611686018427387904 := Nat.or_lt_two_pow (n := 62) (by omega) (by omega)
 have e2 := ori64 (d * 16777216 ||| c * 65536) (b * 256) l1 (by omega) _ ((b : Int) * 256) e1 (by omega)
 have l2 : (d * 16777216 ||| c * 65536) ||| b * 256 < 4611686018427387904 := Nat.or_lt_two_pow (n := 62) l1 (by omega)
 have e3 := ori64 _ a l2 (by omega) _ (a : Int) e2 rfl
 rw [e3, chain_be a b c d ha hb hc hd]
theorem take_succ_getD (bs : List Nat) (k : Nat) (h : k < bs.length) : bs.take (k + 1) = bs.take k ++ [bs.getD k 0] := by
 rw [List.take_succ_eq_append_getElem h]; simp [List.getD, List.getElem?_eq_getElem h]

end Go.Proofs.YtpabbnddeklpdaaGreat

namespace Go.Proofs.YtpabbnddeklpdaaGreat
open Go.RowKit
set_option linter.unusedVariables false

theorem own_snoc {w1 : World} {B n : Nat} {v : Value} {acc : List Nat} {x : Int} {y : Nat} (h : w1.ownsRow B 5 1 v (n + 1) (bv acc ++ [.int .u8 x])) (hn : n = acc.length) (hx : x = (y : Int)) :
  w1.ownsRow B 5 1 v (acc ++ [y]).length (bv (acc ++ [y])) := by
 subst hx
 subst hn
 simpa [bv] using h

set_option maxRecDepth 100000 in
set_option maxHeartbeats 400000 in
theorem uint_any (v : Nat) (hv : v < 18446744073709551616) (w : World) :
  Calls Tryz.prog 80 #[.int .u64 (v : Int)] w fun e w' => ∃ s, e = .returned s ∧ w'.ownsRow w.heap.size 5 1 s (uintL v).length (bv (uintL v)) ∧ Below w.heap.size w w' := by
 obtain ⟨i0, hi, hz0, hz1, hz2⟩ := info_parts info_byte
 have hmk : ∀ w, (Instr.makeSlice 34 (.int .i64 0) (.int .i64 10)).run Tryz.prog w = .ok (.slice (some ⟨w.heap.size, 0, none⟩) 0 10) (w.alloc (.cells #[.int .u8 0, .int .u8 0, .int .u8 0, .int .u8 0, .int .u8 0, .int .u8 0, .int .u8 0, .int .u8 0, .int .u8 0, .int .u8 0] 5)) := fun _ => by kernel_rfl
 go_enter Tryz.func80, Tryz.ntmps80
 go_wp2
 go_loopw [0, 3] (fun x s wr => ∃ (u f : Nat) (acc : List Nat), x = .int .u64 (u : Int) ∧ u < 128 ^ (f + 1) ∧ u < 18446744073709551616 ∧ acc.length + f = 9 ∧ uintL v = acc ++ uintF f u ∧ wr.ownsRow w.heap.size 5 1 s acc.length (bv acc) ∧ Below w.heap.size w wr)
  (fun x _ _ => (intOf x).toNat)
 case atStart => exact ⟨v, 9, [], rfl, by omega, hv, rfl, rfl, World.ownsRow_made w _ 10 (Nat.le_refl _) (by decide) (by simp), (Below.refl _ _).alloc (Nat.le_refl _) _⟩
 case round =>
  obtain ⟨u, f, acc, rfl, hu, hu2, hacc, hl, hown, hb⟩ := hrel
  have HL : Hid (uintL v = acc ++ uintF f u) := hl
  clear hl
  have HU : Hid (u < 128 ^ (f + 1)) := hu
  clear hu
  have hbs := hb.size
  by_cases hgt : 127 < u
  ·have hgt2 : (127 : Int) < (u : Int) := by omega
   go_wp2_with (at_builtin; refine wpList_append_own _ rfl _ _ 34 rfl w.heap.size 5 i0 (.int .u8 0) 1 1 und_bytes hi hz0 hz1 hz2 rfl (by decide) _ acc.length (bv acc) rfl (hown.alloc _) ⟨wr.heap.size, 0, none⟩ 1 1 [_] rfl rfl (cell_one_new _ _ _) ?c2 ?c3 ?c4 ?c5 ?_)
   case c2 => intro u hu; simp at hu; subst hu; rfl
   case c3 => unfold maxLen; omega
   case c4 => omega
   case c5 => simp; omega
   intro v' w1 hown' hgrow _
   have ho := own_snoc hown' rfl (grp u hu2)
   have hb1 : Below w.heap.size w w1 := (hb.alloc hbs _).grown hgrow (by simp; omega) (fun k hk => (hown.lt k hk).1)
   clear hown' hgrow hown hb
   go_wp2
   go_roundw
   case rel =>
    obtain ⟨f', rfl⟩ : ∃ f', f = f' + 1 := ⟨f - 1, by
     have h1 : f ≠ 0 := by
      intro h0
      have := HU.out
      rw [h0] at this
      omega
     omega⟩
    refine ⟨u / 128, f', acc ++ [u % 128 + 128], by go_num, ?_, by omega, by simp; omega, ?_, ho, hb1⟩
    ·have := HU.out
     rw [Nat.pow_succ] at this
     exact Nat.div_lt_of_lt_mul (by rw [Nat.mul_comm]; exact this)
    ·rw [HL.out, uintF_go f' u hgt]; simp
   case measure => simp [intOf]; omega
  ·have hgt2 : (u : Int) ≤ 127 := by omega
   go_wp2_with (at_builtin; refine wpList_append_own _ rfl _ _ 34 rfl w.heap.size 5 i0 (.int .u8 0) 1 1 und_bytes hi hz0 hz1 hz2 rfl (by decide) _ acc.length (bv acc) rfl (hown.alloc _) ⟨wr.heap.size, 0, none⟩ 1 1 [_] rfl rfl (cell_one_new _ _ _) ?c2 ?c3 ?c4 ?c5 ?_)
   case c2 => intro u hu; simp at hu; subst hu; rfl
   case c3 => unfold maxLen; omega
   case c4 => omega
   case c5 => simp; omega
   intro v' w1 hown' hgrow _
   have ho := own_snoc (y := u) hown' rfl (by omega)
   have hb1 : Below w.heap.size w w1 := (hb.alloc hbs _).grown hgrow (by simp; omega) (fun k hk => (hown.lt k hk).1)
   clear hown' hgrow hown hb
   go_wp2
   go_ret
   refine ⟨_, rfl, ?_, hb1⟩
   rw [HL.out, uintF_stop f u (by omega)]
   exact ho

end Go.Proofs.YtpabbnddeklpdaaGreat

namespace Go.Proofs.YtpabbnddeklpdaaGreat
open Go.RowKit
set_option linter.unusedVariables false

def RdP (w : World) (v : Value) (ps : List (List Nat)) : Prop :=
 ps.length ≤ 281474976710656 ∧ ∃ a cap, v = .slice a ps.length cap ∧ (ps = [] ∨ ∃ b off, a = some ⟨b, off, none⟩ ∧ ∀ i, i < ps.length → ∃ u, w.cell? ⟨b, off + i, none⟩ = some u ∧ Rd w u (ps.getD i []))

theorem RdP.later {w w' : World} {v : Value} {ps : List (List Nat)} (h : RdP w v ps) (hb : Below w.heap.size w w') : RdP w' v ps := by
 obtain ⟨h0, a, cap, h1, h2⟩ := h
 refine ⟨h0, a, cap, h1, ?_⟩
 rcases h2 with h2 | ⟨b, off, rfl, hc⟩
 ·exact .inl h2
 ·refine .inr ⟨b, off, rfl, fun i hi => ?_⟩
  obtain ⟨u, hu, hr⟩ := hc i hi
  refine ⟨u, ?_, hr.later hb⟩
  rw [hb.cell (p := ⟨b, off + i, none⟩) (World.block_lt_of_cell? w _ hu)]
  exact hu

theorem flat_snoc (ps : List (List Nat)) (k : Nat) (h : k < ps.length) : (ps.take (k + 1)).flatten = (ps.take k).flatten ++ ps.getD k [] := by
 rw [List.take_succ_eq_append_getElem h, List.flatten_append]; simp [List.getD, List.getElem?_eq_getElem h]

end Go.Proofs.YtpabbnddeklpdaaGreat

namespace Go.Proofs.YtpabbnddeklpdaaGreat
open Go.RowKit
set_option linter.unusedVariables false

theorem news_new (w : World) (xs : List Value) (T : TypeId) : ∀ j u, xs[j]? = some u → (w.alloc (.cells xs.toArray T)).cell? ((⟨w.heap.size, 0, none⟩ : Addr).add j) = some u := by
 intro j u hj
 have : (⟨w.heap.size, 0, none⟩ : Addr).add j = ⟨w.heap.size, j, none⟩ := by unfold Addr.add; split <;> simp_all
 rw [this]
 unfold World.cell?
 rw [heap_alloc_new]
 simpa using hj

def be4 (n : Nat) : List Nat := [n / 16777216, n / 65536 % 256, n / 256 % 256, n % 256]
def le4 (n : Nat) : List Nat := [n % 256, n / 256 % 256, n / 65536 % 256, n / 16777216]

end Go.Proofs.YtpabbnddeklpdaaGreat

namespace Go.Proofs.YtpabbnddeklpdaaGreat
open Go.RowKit
set_option linter.unusedVariables false

theorem Rd.sub {w : World} {b off n cap : Nat} {bs : List Nat} (h : Rd w (.slice (some ⟨b, off, none⟩) n cap) bs) (i j : Nat) (hij : i ≤ j) (hj : j ≤ n) {off' n' cap' : Nat}
  (ho : off' = off + i) (hn : n' = j - i) (hc : cap' = cap - i) : Rd w (.slice (some ⟨b, off', none⟩) n' cap') ((bs.take j).drop i) := by
 obtain ⟨h1, a0, cap0, h2, h3, h4, h5, h6, h7⟩ := h
 simp only [Value.slice.injEq] at h2
 obtain ⟨rfl, rfl, rfl⟩ := h2
 have hl : ((bs.take j).drop i).length = j - i := by simp; omega
 subst ho hn hc
 refine ⟨fun x hx => h1 x (List.mem_of_mem_take (List.mem_of_mem_drop hx)), _, cap - i, by rw [hl], by rw [hl]; omega, Nat.le_trans (Nat.sub_le _ _) h4, by rw [hl]; omega, .inr ⟨b, off + i, rfl⟩, ?_⟩
 rcases h7 with rfl | ⟨b', off', h8, hcell⟩
 ·exact .inl (by simp)
 ·cases h8
  refine .inr ⟨b, off + i, rfl, fun k hk => ?_⟩
  rw [hl] at hk
  have := hcell (i + k) (by omega)
  rw [Nat.add_assoc, this]
  simp [List.getElem?_take_of_lt (show i + k < j by omega)]
theorem Rd.upto {w : World} {b off n cap : Nat} {bs : List Nat} (h : Rd w (.slice (some ⟨b, off, none⟩) n cap) bs) (j : Nat) (hj : j ≤ n) : Rd w (.slice (some ⟨b, off, none⟩) j cap) (bs.take j) := by
 have := h.sub 0 j (Nat.zero_le _) hj (off' := off) (n' := j) (cap' := cap) rfl (by omega) (by omega)
 simpa using this
theorem Rd.past {w : World} {b off n cap : Nat} {bs : List Nat} (h : Rd w (.slice (some ⟨b, off, none⟩) n cap) bs) (i : Nat) (hi : i ≤ n) {off' n' cap' : Nat}
  (ho : off' = off + i) (hn : n' = n - i) (hc : cap' = cap - i) : Rd w (.slice (some ⟨b, off', none⟩) n' cap') (bs.drop i) := by
 have hl : n = bs.length := by obtain ⟨_, _, _, h2, _⟩ := h; simp only [Value.slice.injEq] at h2; exact h2.2.1
 have := h.sub i n hi (Nat.le_refl _) ho hn hc
 rwa [hl, List.take_length] at this
theorem Rd.empty (w : World) (b off : Nat) (cap : Nat) (hc : cap ≤ maxLen) : Rd w (.slice (some ⟨b, off, none⟩) 0 cap) [] :=
 ⟨fun x hx => by simp at hx, _, cap, rfl, Nat.zero_le _, hc, by simp, .inr ⟨b, off, rfl⟩, .inl rfl⟩

theorem rd_lens {w : World} {a : Option Addr} {n cap : Nat} {bs : List Nat} (h : Rd w (.slice a n cap) bs) : n = bs.length ∧ n ≤ cap ∧ cap ≤ maxLen ∧ n ≤ 281474976710656 := by
 obtain ⟨_, a1, c1, h2, hle, hm, hl48, _⟩ := h
 simp only [Value.slice.injEq] at h2
 obtain ⟨rfl, rfl, rfl⟩ := h2
 exact ⟨rfl, hle, hm, hl48⟩
theorem rd_slice {w : World} {v : Value} {bs : List Nat} (h : Rd w v bs) : ∃ a n cap, v = .slice a n cap := by
 obtain ⟨_, a1, c1, h2, _⟩ := h
 exact ⟨_, _, _, h2⟩
theorem rd_some {w : World} {a : Option Addr} {n cap : Nat} {bs : List Nat} (h : Rd w (.slice a n cap) bs) : (cap = 0 ∧ n = 0 ∧ bs = []) ∨ ∃ b off, a = some ⟨b, off, none⟩ := by
 obtain ⟨_, a1, c1, h2, hle, hm, hl48, hn, hat⟩ := h
 simp only [Value.slice.injEq] at h2
 obtain ⟨rfl, rfl, rfl⟩ := h2
 rcases hn with rfl | ⟨b, off, rfl⟩
 ·exact .inl ⟨rfl, by omega, List.eq_nil_of_length_eq_zero (by omega)⟩
 ·exact .inr ⟨b, off, rfl⟩
theorem rd_cell {w : World} {b off n cap : Nat} {bs : List Nat} (h : Rd w (.slice (some ⟨b, off, none⟩) n cap) bs) (i : Nat) (hi : i < n) : w.cell? ⟨b, off + i, none⟩ = some (.int .u8 ((bs.getD i 0 : Nat) : Int)) ∧ bs.getD i 0 < 256 := by
 obtain ⟨h1, a0, cap0, h2, h3, h4, h5, h6, h7⟩ := h
 simp only [Value.slice.injEq] at h2
 obtain ⟨rfl, rfl, rfl⟩ := h2
 rcases h7 with rfl | ⟨b', off', h8, hcell⟩
 ·simp at hi
 ·cases h8
  exact ⟨hcell i hi, h1.get i⟩

set_option maxRecDepth 100000 in
set_option maxHeartbeats 400000 in
theorem clone_any {v : Value} {bs : List Nat} {w : World} (hr : Rd w v bs) (h47 : bs.length ≤ 140737488355328) :
  Calls Tryz.prog 43 #[v] w fun e w' => ∃ s, e = .returned s ∧ w'.ownsRow w.heap.size 5 1 s bs.length (bv bs) ∧ Below w.heap.size w w' := by
 obtain ⟨i0, hi, hz0, hz1, hz2⟩ := info_parts info_byte
 obtain ⟨hby, a, cap, rfl, hle, hm, hl48, hnone, hat⟩ := hr
 have heq := fun w => Lib.run_eql_slice_nil (P := Tryz.prog) w 34 5 a bs.length cap 0 0 und_bytes
 cases a with
 | none =>
  have hb0 : bs = [] := by
   rcases hnone with h | ⟨b, off, h⟩
   ·exact List.eq_nil_of_length_eq_zero (by omega)
   ·cases h
  subst hb0
  simp only [List.length_nil, Option.isNone_none] at heq
  go_enter Tryz.func43, Tryz.ntmps43
  go_wp2
  go_ret
  exact ⟨_, rfl, World.ownsRow_nil _ _ _ _, Below.refl _ _⟩
 | some x =>
  have hc' := (hat.later ((Below.refl _ _).alloc (Nat.le_refl _) (.cells #[] 5))).add
  clear hat hnone
  go_enter Tryz.func43, Tryz.ntmps43
  go_wp2_with (at_builtin; refine wpList_append_own _ rfl _ _ 34 rfl w.heap.size 5 i0 (.int .u8 0) 1 1 und_bytes hi hz0 hz1 hz2 rfl (by decide) _ 0 (bv []) rfl (World.ownsRow_made w #[] 0 (Nat.le_refl _) (Nat.zero_le _) rfl) x bs.length cap (bv bs) rfl ?c0 hc' (bv_oneCell bs) ?c3 ?c4 ?c5 ?_)
  case c0 => simp [bv]
  case c3 => unfold maxLen; omega
  case c4 => omega
  case c5 => simp
  intro v' w1 hown' hgrow _
  have hb1 : Below w.heap.size w w1 := ((Below.refl _ w).alloc (Nat.le_refl _) _).grown hgrow (by simp) (fun k hk => by simp [Value.ownBlock] at hk; omega)
  clear hgrow hc'
  go_wp2
  go_ret
  refine ⟨_, rfl, ?_, hb1⟩
  simpa [bv] using hown'

theorem wpList_append_at {w : World} {ops : Array Oper} {rest : List Oper} {o : Oper} {a : Act} {Q : Exit → Act → World → Prop} (hgd : o.guard = none) (s x : Operand)
  (ho : o.op = .call { callee := .builtin .append, args := #[s, x], argTypes := #[34, 34] })
  (B : Nat) (a0 : Option Addr) (m0 c0 : Nat) (acc : List Nat) (hs : a.eval s = .slice a0 m0 c0) (hown : Own w B (.slice a0 m0 c0) m0 acc)
  (ao : Option Addr) (m c : Nat) (bs : List Nat) (hx : a.eval x = .slice ao m c) (hrd : Rd w (.slice ao m c) bs)
  (hbytes : m0 + m ≤ 140737488355328) (hB : B ≤ w.heap.size)
  (h : ∀ a' m' c' w', Own w' B (.slice a' m' c') m' (acc ++ bs) → Below B w w' → wpList Tryz.prog ops Q rest (a.put o.dst (.slice a' m' c')) w') : wpList Tryz.prog ops Q (o :: rest) a w := by
 obtain ⟨i0, hi, hz0, hz1, hz2⟩ := info_parts info_byte
 obtain ⟨hby, a1, c1, h2, hle, hm, hl48, hnone, hat⟩ := hrd
 simp only [Value.slice.injEq] at h2
 obtain ⟨rfl, rfl, rfl⟩ := h2
 cases ao with
 | none =>
  have hb0 : bs = [] ∧ c = 0 := by
   rcases hnone with h | ⟨b, off, h⟩
   ·exact ⟨List.eq_nil_of_length_eq_zero (by omega), h⟩
   ·cases h
  obtain ⟨rfl, rfl⟩ := hb0
  refine wpList_append_own_none hgd s x 34 ho B 5 i0 1 und_bytes hi _ _ _ hs hown.2 (by simpa using hx) ?_
  exact h _ _ _ _ (by simpa using hown) (Below.refl _ _)
 | some ad =>
  refine wpList_append_own _ hgd s x 34 ho B 5 i0 (.int .u8 0) 1 1 und_bytes hi hz0 hz1 hz2 rfl (by decide) _ m0 (bv acc) hs hown.2 ad bs.length c (bv bs) hx (by simp [bv]) hat.add (bv_oneCell bs) (by unfold maxLen; omega) (by omega) hB ?_
  intro v' w' h1 h2 _
  obtain ⟨a', c', rfl⟩ := own_form h1
  refine h a' _ c' w' ⟨by rw [hown.1]; simp, by simpa [bv] using h1⟩ ((Below.refl B w).grown h2 hB (fun k hk => (hown.2.lt k hk).1))

theorem wpList_append_new {w : World} {ops : Array Oper} {rest : List Oper} {o : Oper} {a : Act} {Q : Exit → Act → World → Prop} (hgd : o.guard = none) (s x : Operand)
  (ho : o.op = .call { callee := .builtin .append, args := #[s, x], argTypes := #[34, 34] })
  (B : Nat) (a0 : Option Addr) (m0 c0 : Nat) (acc : List Nat) (hs : a.eval s = .slice a0 m0 c0) (hown : Own w B (.slice a0 m0 c0) m0 acc)
  (vs : List Value) (m : Nat) (hx : a.eval x = .slice (some ⟨w.heap.size, 0, none⟩) m m) (bs : List Nat) (hvs : vs = bv bs) (hm : m = bs.length)
  (hbytes : m0 + m ≤ 140737488355328) (hB : B ≤ w.heap.size)
  (h : ∀ a' m' c' w', Own w' B (.slice a' m' c') m' (acc ++ bs) → Below B w w' → wpList Tryz.prog ops Q rest (a.put o.dst (.slice a' m' c')) w') : wpList Tryz.prog ops Q (o :: rest) a (w.alloc (.cells vs.toArray 5)) := by
 obtain ⟨i0, hi, hz0, hz1, hz2⟩ := info_parts info_byte
 subst hvs
 refine wpList_append_own _ hgd s x 34 ho B 5 i0 (.int .u8 0) 1 1 und_bytes hi hz0 hz1 hz2 rfl (by decide) _ m0 (bv acc) hs (hown.2.alloc _) ⟨w.heap.size, 0, none⟩ m m (bv bs) hx (by simp [bv, hm]) (news_new _ _ _) (bv_oneCell bs) (by unfold maxLen; omega) (by omega) (by simp; omega) ?_
 intro v' w' h1 h2 _
 obtain ⟨a', c', rfl⟩ := own_form h1
 refine h a' _ c' w' ⟨by rw [hown.1, hm]; simp, by simpa [bv] using h1⟩ (((Below.refl B w).alloc hB _).grown h2 (by simp; omega) (fun k hk => (hown.2.lt k hk).1))

end Go.Proofs.YtpabbnddeklpdaaGreat

namespace Go.Proofs.YtpabbnddeklpdaaGreat
open Go.RowKit
set_option linter.unusedVariables false

theorem RdP.one {w : World} {u : Value} {bs : List Nat} (h : Rd w u bs) : RdP (w.alloc (.cells #[u] 34)) (.slice (some ⟨w.heap.size, 0, none⟩) 1 1) [bs] := by
 refine ⟨by simp, _, 1, rfl, .inr ⟨w.heap.size, 0, rfl, fun i hi => ?_⟩⟩
 have hi0 : i = 0 := by simp at hi; exact hi
 subst hi0
 refine ⟨u, ?_, ?_⟩
 ·exact news_new w [u] 34 0 u rfl
 ·exact h.later ((Below.refl _ _).alloc (Nat.le_refl _) _)

def frameL (body : List Nat) : List Nat := ((be4 body.length ++ le4 (sumL (be4 body.length))) ++ body) ++ le4 (sumL body)

theorem sumL_lt (bs : List Nat) : sumL bs < 4294967296 := by unfold sumL; omega

theorem be4_bys (n : Nat) (h : n < 4294967296) : Bys (be4 n) := by
 intro x hx; simp [be4] at hx; omega
theorem le4_bys (n : Nat) (h : n < 4294967296) : Bys (le4 n) := by
 intro x hx; simp [le4] at hx; omega
theorem Bys.app {a b : List Nat} (ha : Bys a) (hb : Bys b) : Bys (a ++ b) := by
 intro x hx
 rcases List.mem_append.1 hx with h | h
 ·exact ha x h
 ·exact hb x h
theorem frameL_bys (body : List Nat) (h : Bys body) (hl : body.length ≤ 1048576) : Bys (frameL body) :=
 (((be4_bys _ (by omega)).app (le4_bys _ (sumL_lt _))).app h).app (le4_bys _ (sumL_lt _))

theorem own_app {w1 : World} {B n m : Nat} {v : Value} {acc bs : List Nat} (h : w1.ownsRow B 5 1 v (n + m) (bv acc ++ bv bs)) (hn : n = acc.length) (hm : m = bs.length) :
  w1.ownsRow B 5 1 v (acc ++ bs).length (bv (acc ++ bs)) := by
 subst hn; subst hm
 simpa [bv] using h

end Go.Proofs.YtpabbnddeklpdaaGreat

namespace Go.Proofs.YtpabbnddeklpdaaGreat
open Go.RowKit
set_option linter.unusedVariables false

def headR (bs : List Nat) : Nat × Nat :=
 if bs.length < 8 then (0, 10)
 else if rdle (bs.getD 4 0) (bs.getD 5 0) (bs.getD 6 0) (bs.getD 7 0) ≠ sumL (bs.take 4) then (0, 12)
 else if 1048576 < rdle (bs.getD 3 0) (bs.getD 2 0) (bs.getD 1 0) (bs.getD 0 0) then (0, 13)
 else (rdle (bs.getD 3 0) (bs.getD 2 0) (bs.getD 1 0) (bs.getD 0 0), 0)

theorem headR_lt (bs : List Nat) : (headR bs).1 ≤ 1048576 ∧ (headR bs).2 ≤ 13 := by
 unfold headR
 split
 ·simp
 ·split
  ·simp
  ·split
   ·simp
   ·exact ⟨by show rdle _ _ _ _ ≤ _; omega, by simp⟩

def frameR (bs : List Nat) (k : Nat) : List Nat × Nat × Nat :=
 if (headR (bs.drop k)).2 ≠ 0 then ([], 0, (headR (bs.drop k)).2)
 else if bs.length < k + 8 + (headR (bs.drop k)).1 + 4 then ([], 0, 10)
 else if rdle ((bs.drop (k + 8 + (headR (bs.drop k)).1)).getD 0 0) ((bs.drop (k + 8 + (headR (bs.drop k)).1)).getD 1 0) ((bs.drop (k + 8 + (headR (bs.drop k)).1)).getD 2 0) ((bs.drop (k + 8 + (headR (bs.drop k)).1)).getD 3 0) ≠ sumL ((bs.drop (k + 8)).take (headR (bs.drop k)).1) then ([], 0, 12)
 else ((bs.drop (k + 8)).take (headR (bs.drop k)).1, k + 12 + (headR (bs.drop k)).1, 0)

theorem headR_nil : headR [] = (0, 10) := rfl

end Go.Proofs.YtpabbnddeklpdaaGreat

namespace Go.Proofs.YtpabbnddeklpdaaGreat
open Go.RowKit
set_option linter.unusedVariables false

def ruint : Nat → List Nat → Nat → Nat → Nat × Nat × Nat
 | _, [], _, _ => (0, 0, 10)
 | 0, c :: _, i, v => if i = 9 ∧ 1 < c then (0, 0, 13) else if 128 ≤ c then (0, 0, 13) else if c = 0 ∧ 0 < i then (0, 0, 11) else (v + c % 128 * 128 ^ i, i + 1, 0)
 | f + 1, c :: r, i, v => if i = 9 ∧ 1 < c then (0, 0, 13) else if 128 ≤ c then ruint f r (i + 1) (v + c % 128 * 128 ^ i) else if c = 0 ∧ 0 < i then (0, 0, 11) else (v + c % 128 * 128 ^ i, i + 1, 0)
def uintR (bs : List Nat) (k : Nat) : Nat × Nat × Nat :=
 ((ruint 9 (bs.drop k) 0 0).1, if (ruint 9 (bs.drop k) 0 0).2.2 = 0 then k + (ruint 9 (bs.drop k) 0 0).2.1 else 0, (ruint 9 (bs.drop k) 0 0).2.2)

theorem and7f (c : Nat) (h : c < 256) : bits .and .u8 (c : Int) 127 = ((c % 128 : Nat) : Int) := by
 have := u8_and_nat c 127 h (by omega)
 rw [nat_mask7] at this
 exact this
theorem and80 (c : Nat) (h : c < 256) : bits .and .u8 (c : Int) 128 = ((c / 128 * 128 : Nat) : Int) := by
 have := u8_and_nat c 128 h (by omega)
 rw [show (128 : Nat) = 2 ^ 7 from rfl, nat_bit 7 c] at this
 have h2 : c / 2 ^ 7 % 2 * 2 ^ 7 = c / 128 * 128 := by omega
 rw [h2] at this
 exact this

theorem pow7 (i : Nat) : 2 ^ (7 * i) = 128 ^ i := by rw [Nat.pow_mul]
theorem shl_lt (c i : Nat) (hi : i ≤ 9) (h9 : i = 9 → c ≤ 1) : c % 128 * 128 ^ i < 18446744073709551616 := by
 by_cases h : i = 9
 ·have := h9 h
  subst h
  have : c % 128 ≤ 1 := by omega
  calc c % 128 * 128 ^ 9 ≤ 1 * 128 ^ 9 := Nat.mul_le_mul_right _ this
   _ < 18446744073709551616 := by decide
 ·have h1 : 128 ^ i ≤ 128 ^ 8 := Nat.pow_le_pow_right (by omega) (by omega)
  calc c % 128 * 128 ^ i ≤ 127 * 128 ^ 8 := Nat.mul_le_mul (by omega) h1
   _ < 18446744073709551616 := by decide
theorem orshift (q c i : Nat) (hi : i ≤ 9) (hq : q < 128 ^ i) (h9 : i = 9 → c ≤ 1) : bits .or .u64 (q : Int) (IntKind.u64.wrap ((c : Int) % 128 * 2 ^ (7 * i))) = ((q + c % 128 * 128 ^ i : Nat) : Int) := by
 have hx := shl_lt c i hi h9
 have e1 : ((c : Int) % 128 * 2 ^ (7 * i)) = ((c % 128 * 128 ^ i : Nat) : Int) := by
  rw [← pow7 i]; simp
 have hq64 : q < 18446744073709551616 := Nat.lt_of_lt_of_le hq (by
  have h1 : 128 ^ i ≤ 128 ^ 9 := Nat.pow_le_pow_right (by omega) hi
  exact Nat.le_trans h1 (by decide))
 rw [e1, IntKind.wrap_u64]
 have e2 : ((c % 128 * 128 ^ i : Nat) : Int) % 18446744073709551616 = ((c % 128 * 128 ^ i : Nat) : Int) := by omega
 rw [e2, u64_or_nat _ _ hq64 hx, Nat.or_comm, nat_join (7 * i) _ _ (by rw [pow7]; simp) (by rw [pow7]; exact hq), Nat.add_comm]
theorem next_lt (q c i : Nat) (hq : q < 128 ^ i) : q + c % 128 * 128 ^ i < 128 ^ (i + 1) := by
 have h1 : c % 128 * 128 ^ i ≤ 127 * 128 ^ i := Nat.mul_le_mul_right _ (by omega)
 rw [Nat.pow_succ]
 omega
theorem tup3 {X X' Y Y' Z : Int} (h1 : X = X') (h2 : Y = Y') : Ending.returned (Value.tuple #[Value.int .u64 X, Value.int .i64 Y, Value.int .i64 Z]) = Ending.returned (Value.tuple #[Value.int .u64 X', Value.int .i64 Y', Value.int .i64 Z]) := by rw [h1, h2]

end Go.Proofs.YtpabbnddeklpdaaGreat

namespace Go.Proofs.YtpabbnddeklpdaaGreat
open Go.RowKit
set_option linter.unusedVariables false

theorem st1 : uintR [9, 172, 2] 1 = (300, 3, 0) := by decide
theorem st2 : (frameL [7]).length = 13 := by decide
theorem st3 : frameR (frameL [7]) 0 = ([7], 13, 0) := by decide
theorem st4 : uintL 300 = [172, 2] := by decide

theorem rd_new (w : World) (g : Nat) (hg : g = w.heap.size) (bs : List Nat) (vs : List Value) (hv : vs = bv bs) (hb : Bys bs) (hl : bs.length ≤ 1000) (n : Nat) (hn : n = bs.length) :
  Rd (w.alloc (.cells vs.toArray 5)) (.slice (some ⟨g, 0, none⟩) n n) bs := by
 subst hv hn hg
 refine ⟨hb, _, _, rfl, Nat.le_refl _, by unfold maxLen; omega, by omega, .inr ⟨w.heap.size, 0, rfl⟩, .inr ⟨w.heap.size, 0, rfl, fun i hi => ?_⟩⟩
 have := news_new w (bv bs) 5 i (.int .u8 ((bs.getD i 0 : Nat) : Int)) (by simp [bv, List.getElem?_eq_getElem hi])
 have e : (⟨w.heap.size, 0, none⟩ : Addr).add i = ⟨w.heap.size, 0 + i, none⟩ := by unfold Addr.add; split <;> simp_all
 rwa [e] at this

theorem uint_at (z : Int) (v : Nat) (hz : z = (v : Int)) (hv : v < 18446744073709551616) (w : World) {L : List Nat} (hL : uintL v = L) :
  Calls Tryz.prog 80 #[.int .u64 z] w fun e w' => ∃ a m c, e = .returned (.slice a m c) ∧ Own w' w.heap.size (.slice a m c) m L ∧ Below w.heap.size w w' := by
 subst hz hL
 exact handed (uint_any v hv w)
theorem bys7 : Bys [7] := by intro x hx; simp at hx; omega

end Go.Proofs.YtpabbnddeklpdaaGreat

namespace Go.Proofs.YtpabbnddeklpdaaGreat
open Go.RowKit
set_option linter.unusedVariables false

def be8 (n : Nat) : List Nat := [n / 2 ^ 56 % 256, n / 2 ^ 48 % 256, n / 2 ^ 40 % 256, n / 2 ^ 32 % 256, n / 2 ^ 24 % 256, n / 2 ^ 16 % 256, n / 2 ^ 8 % 256, n % 256]
theorem be8_bys (n : Nat) : Bys (be8 n) := by intro x hx; simp [be8] at hx; omega
theorem be8_get (n t : Nat) (h : t < 8) : (be8 n).getD t 0 = n / 2 ^ (8 * (7 - t)) % 256 := by
 match t, h with
 | 0, _ => rfl
 | 1, _ => rfl
 | 2, _ => rfl
 | 3, _ => rfl
 | 4, _ => rfl
 | 5, _ => rfl
 | 6, _ => rfl
 | 7, _ => simp [be8]
def fill8 (n t : Nat) : List Nat := (be8 n).take t ++ List.replicate (8 - t) 0
theorem fill8_len (n t : Nat) (h : t ≤ 8) : (fill8 n t).length = 8 := by simp [fill8, be8]; omega
theorem fill8_next (n t : Nat) (h : t < 8) : (fill8 n t).set t ((be8 n).getD t 0) = fill8 n (t + 1) := by
 match t, h with
 | 0, _ => rfl
 | 1, _ => rfl
 | 2, _ => rfl
 | 3, _ => rfl
 | 4, _ => rfl
 | 5, _ => rfl
 | 6, _ => rfl
 | 7, _ => rfl

set_option maxRecDepth 100000 in
set_option maxHeartbeats 400000 in
theorem rising_neg (z : Int) (hz : z < 0) (w : World) : Calls Tryz.prog 96 #[.int .i64 z] w fun e w' => e = .returned (.tuple #[.slice none 0 0, .int .i64 1]) ∧ w' = w := by
 go_enter Tryz.func96, Tryz.ntmps96
 go_wp2
 go_ret2
 exact ⟨rfl, rfl⟩

set_option maxRecDepth 100000 in
set_option maxHeartbeats 1000000 in
theorem rising_any (n : Nat) (hn : n < 9223372036854775808) (w : World) :
  Calls Tryz.prog 96 #[.int .i64 (n : Int)] w fun e w' => ∃ a m c, e = .returned (.tuple #[.slice a m c, .int .i64 0]) ∧ Own w' w.heap.size (.slice a m c) m (be8 n) ∧ Below w.heap.size w w' := by
 have h0 : (0 : Int) ≤ (n : Int) := by omega
 have hmk : ∀ w, (Instr.makeSlice 34 (.int .i64 8) (.int .i64 8)).run Tryz.prog w = .ok (.slice (some ⟨w.heap.size, 0, none⟩) 8 8) (w.alloc (.cells #[.int .u8 0, .int .u8 0, .int .u8 0, .int .u8 0, .int .u8 0, .int .u8 0, .int .u8 0, .int .u8 0] 5)) := fun _ => by kernel_rfl
 go_enter Tryz.func96, Tryz.ntmps96
 go_wp2
 go_loopw [11] (fun i wr => ∃ t, t ≤ 8 ∧ i = .int .i64 ((t : Nat) : Int) ∧ Own wr w.heap.size (.slice (some ⟨w.heap.size, 0, none⟩) 8 8) 8 (fill8 n t) ∧ Below w.heap.size w wr) (fun i _ => 8 - (intOf i).toNat)
 case atStart =>
  refine ⟨0, by omega, rfl, ⟨rfl, ?_⟩, (Below.refl _ _).alloc (Nat.le_refl _) _⟩
  exact ⟨rfl, .inr ⟨w.heap.size, 8, _, rfl, Nat.le_refl _, heap_alloc_new w _, by omega, by unfold maxLen; omega, rfl, rfl⟩⟩
 case round =>
  obtain ⟨t, htl, rfl, ownk, hbk⟩ := hrel
  by_cases hlt : t < 8
  ·have hlt2 : (t : Int) < 8 := by omega
   have hfz := ownk.2.frozenAt t
   have hcell : wr.cell? ⟨w.heap.size, t, none⟩ = some (.int .u8 (((fill8 n t).getD t 0 : Nat) : Int)) := by
    rw [ownk.2.cellAt t (by omega)]
    simp [bv, List.getElem?_eq_getElem (show t < (fill8 n t).length by rw [fill8_len n t (by omega)]; exact hlt)]
   obtain ⟨y, hy⟩ : ∃ y, y = (fill8 n t).getD t 0 := ⟨_, rfl⟩
   rw [← hy] at hcell
   clear hy
   have HOWN : Hid (Own wr w.heap.size (.slice (some ⟨w.heap.size, 0, none⟩) 8 8) 8 (fill8 n t)) := ownk
   have HBK : Hid (Below w.heap.size w wr) := hbk
   clear ownk hbk
   have hvv : ((n : Int) / 2 ^ (8 * (7 - t)) % 256) = (((be8 n).getD t 0 : Nat) : Int) := by
    rw [be8_get n t hlt]; simp
   have HVV : Hid (((n : Int) / 2 ^ (8 * (7 - t)) % 256) = (((be8 n).getD t 0 : Nat) : Int)) := hvv
   clear hvv
   go_wp2
   go_roundw
   case rel =>
    have st := HOWN.out.2.stored t (.int .u8 ((n : Int) / 2 ^ (8 * (7 - t)) % 256))
    refine ⟨t + 1, by omega, by go_num, ⟨by rw [fill8_len n (t + 1) (by omega)], ?_⟩, HBK.out.setCell (p := ⟨w.heap.size, t, none⟩) (Nat.le_refl _) _⟩
    have := st.1
    rw [HVV.out] at this ⊢
    have e : bv (fill8 n (t + 1)) = (bv (fill8 n t)).set t (.int .u8 (((be8 n).getD t 0 : Nat) : Int)) := by
     rw [← fill8_next n t hlt]
     simp [bv, List.map_set]
    rw [e]
    exact this
   case measure => simp [intOf]; omega
  ·have hge : (8 : Int) ≤ (t : Int) := by omega
   obtain rfl : t = 8 := by omega
   have e : fill8 n 8 = be8 n := rfl
   rw [e] at ownk
   go_wp2
   go_ret2
   exact ⟨_, _, _, rfl, ownk, hbk⟩

theorem rising_at (z : Int) (n : Nat) (hz : z = (n : Int)) (hn : n < 9223372036854775808) (w : World) :
  Calls Tryz.prog 96 #[.int .i64 z] w fun e w' => ∃ a m c, e = .returned (.tuple #[.slice a m c, .int .i64 0]) ∧ Own w' w.heap.size (.slice a m c) m (be8 n) ∧ Below w.heap.size w w' := by
 subst hz; exact rising_any n hn w

set_option maxRecDepth 100000 in
set_option maxHeartbeats 400000 in
theorem falling_neg (z : Int) (hz : z < 0) (w : World) : Calls Tryz.prog 89 #[.int .i64 z] w fun e w' => e = .returned (.tuple #[.slice none 0 0, .int .i64 1]) ∧ w' = w := by
 go_enter Tryz.func89, Tryz.ntmps89
 go_wp2
 go_ret2
 exact ⟨rfl, rfl⟩
set_option maxRecDepth 100000 in
set_option maxHeartbeats 400000 in
theorem falling_any (n : Nat) (hn : n < 9223372036854775808) (w : World) :
  Calls Tryz.prog 89 #[.int .i64 (n : Int)] w fun e w' => ∃ a m c, e = .returned (.tuple #[.slice a m c, .int .i64 0]) ∧ Own w' w.heap.size (.slice a m c) m (be8 (9223372036854775807 - n)) ∧ Below w.heap.size w w' := by
 have h0 : (0 : Int) ≤ (n : Int) := by omega
 have h1 : (n : Int) ≤ 9223372036854775807 := by omega
 obtain ⟨q, hq⟩ : ∃ q, q = 9223372036854775807 - n := ⟨_, rfl⟩
 have HQ : Hid (((9223372036854775807 : Int) - (n : Int)) = (q : Int)) := by unfold Hid; omega
 have HQ2 : Hid (q < 9223372036854775808) := by unfold Hid; omega
 rw [← hq]
 clear hq
 go_enter Tryz.func89, Tryz.ntmps89
 go_wp2_with fail
 refine (rising_at _ q HQ.out HQ2.out _).mono ?_
 rintro e w1 ⟨a1, m1, c1, rfl, own1, hb1⟩
 go_wp2
 go_ret2
 exact ⟨a1, m1, c1, rfl, own1, hb1⟩

def num8 (l : List Nat) : Nat := l.foldl (fun v c => v * 256 + c) 0
theorem num8_lt (l : List Nat) (h : Bys l) : num8 l < 256 ^ l.length := by
 have key : ∀ (l : List Nat) (v k : Nat), Bys l → v < 256 ^ k → l.foldl (fun v c => v * 256 + c) v < 256 ^ (k + l.length) := by
  intro l
  induction l with
  | nil => intro v k _ hv; simpa using hv
  | cons c l ih =>
   intro v k hb hv
   have := ih (v * 256 + c) (k + 1) (fun x hx => hb x (by simp [hx])) (by have := hb c (by simp); rw [Nat.pow_succ]; omega)
   rw [show k + (c :: l).length = k + 1 + l.length by simp; omega]
   exact this
 have := key l 0 0 h (by simp)
 rw [Nat.zero_add] at this
 exact this
theorem num8_snoc (l : List Nat) (t : Nat) (h : t < l.length) : num8 (l.take (t + 1)) = num8 (l.take t) * 256 + l.getD t 0 := by
 rw [take_succ_getD l t h]
 simp [num8, List.foldl_append]
def riseR (bs : List Nat) (k : Nat) : Nat × Nat × Nat :=
 if bs.length < k + 8 then (0, 0, 10)
 else if 9223372036854775807 < num8 ((bs.drop k).take 8) then (0, 0, 13)
 else (num8 ((bs.drop k).take 8), k + 8, 0)

def fallR (bs : List Nat) (k : Nat) : Nat × Nat × Nat :=
 if (riseR bs k).2.2 ≠ 0 then (0, 0, (riseR bs k).2.2) else (9223372036854775807 - (riseR bs k).1, (riseR bs k).2.1, 0)
theorem riseR_lt (bs : List Nat) (k : Nat) : (riseR bs k).1 ≤ 9223372036854775807 ∧ (riseR bs k).2.2 ≤ 13 ∧ ((riseR bs k).2.2 ≠ 0 → (riseR bs k).2.1 = 0) ∧ (riseR bs k).2.1 ≤ k + 8 := by
 unfold riseR
 split
 ·simp
 ·split
  ·simp
  ·rename_i h1 h2
   refine ⟨by show num8 _ ≤ _; omega, by simp, by simp, by simp⟩

end Go.Proofs.YtpabbnddeklpdaaGreat
