import Derived.Laws.BitsAllLaws
import Derived.RowKit
import Derived.Test.YtieehdhinponcaaJ00
namespace Go.Proofs.Ytieehdhinponcaa
open Go.RowKit
set_option linter.unusedVariables false

/-- FNV-1a of 64 bits. -/
def hashS (h b : Nat) : Nat := (h ^^^ b) * 1099511628211 % 18446744073709551616
def hashN (bs : List Nat) : Nat := bs.foldl hashS 14695981039346656037
theorem hashN_snoc (a : List Nat) (c : Nat) : hashN (a ++ [c]) = hashS (hashN a) c := by
  unfold hashN
  rw [List.foldl_append, List.foldl_cons, List.foldl_nil]
theorem hashS_lt (h b : Nat) : hashS h b < 18446744073709551616 := Nat.mod_lt _ (by decide)
theorem hashN_lt (bs : List Nat) : hashN bs < 18446744073709551616 := by
  have key : ∀ (l : List Nat) (h : Nat), h < 18446744073709551616 → l.foldl hashS h < 18446744073709551616 := by
    intro l
    induction l with
    | nil => intro h hh; exact hh
    | cons c l ih => intro h hh; exact ih _ (hashS_lt _ _)
  exact key bs _ (by decide)

/-- The two halves of a hash; a key's places. -/
def hX (k : List Nat) : Nat := hashN k / 4294967296
def hL (k : List Nat) : Nat := hashN k % 4294967296
def stepN (x y : Nat) (m j : Nat) : Nat := (x + j * (y ||| 1)) % 4294967296 % m
def placeN (k : List Nat) (m j : Nat) : Nat := stepN (hX k) (hL k) m j
def placesN (k : List Nat) (p m : Nat) : List Nat := (List.range p).map (placeN k m)
theorem hX_lt (k : List Nat) : hX k < 4294967296 := by have := hashN_lt k; unfold hX; omega
theorem hL_lt (k : List Nat) : hL k < 4294967296 := Nat.mod_lt _ (by decide)
theorem placeN_lt (k : List Nat) {m : Nat} (hm : 0 < m) (j : Nat) : placeN k m j < m := Nat.mod_lt _ hm
theorem placesN_lt {k : List Nat} {p m i : Nat} (hm : 0 < m) (h : i ∈ placesN k p m) : i < m := by
  simp only [placesN, List.mem_map] at h
  obtain ⟨j, _, rfl⟩ := h
  exact placeN_lt k hm j

/-- Bit i of bytes. -/
def bitAt (b : List Nat) (i : Nat) : Bool := (b.getD (i / 8) 0).testBit (7 - i % 8)
def byteS (S : Nat → Bool) (i : Nat) : Nat := (List.range 8).foldl (fun c k => 2 * c + (if S (8 * i + k) then 1 else 0)) 0
def bodyS (m : Nat) (S : Nat → Bool) : List Nat := (List.range (m / 8)).map (byteS S)
def headL (p m : Nat) : List Nat := [66, p, m / 16777216, m / 65536 % 256, m / 256 % 256, m % 256]
def filt (p m : Nat) (S : Nat → Bool) : List Nat := headL p m ++ bodyS m S

def byte8 (b0 b1 b2 b3 b4 b5 b6 b7 : Bool) : Nat := 128 * b0.toNat + 64 * b1.toNat + 32 * b2.toNat + 16 * b3.toNat + 8 * b4.toNat + 4 * b5.toNat + 2 * b6.toNat + b7.toNat
theorem byteS_eq (S : Nat → Bool) (i : Nat) : byteS S i = byte8 (S (8 * i)) (S (8 * i + 1)) (S (8 * i + 2)) (S (8 * i + 3)) (S (8 * i + 4)) (S (8 * i + 5)) (S (8 * i + 6)) (S (8 * i + 7)) := by
  have e : List.range 8 = [0, 1, 2, 3, 4, 5, 6, 7] := by decide
  have h : ∀ b : Bool, (if b then 1 else 0) = b.toNat := by decide
  simp only [byteS, e, List.foldl_cons, List.foldl_nil, h, byte8, Nat.add_zero]
  omega
theorem byte8_bits : ∀ b0 b1 b2 b3 b4 b5 b6 b7 : Bool, byte8 b0 b1 b2 b3 b4 b5 b6 b7 < 256 ∧ (byte8 b0 b1 b2 b3 b4 b5 b6 b7).testBit 7 = b0 ∧ (byte8 b0 b1 b2 b3 b4 b5 b6 b7).testBit 6 = b1 ∧ (byte8 b0 b1 b2 b3 b4 b5 b6 b7).testBit 5 = b2 ∧ (byte8 b0 b1 b2 b3 b4 b5 b6 b7).testBit 4 = b3
    ∧ (byte8 b0 b1 b2 b3 b4 b5 b6 b7).testBit 3 = b4 ∧ (byte8 b0 b1 b2 b3 b4 b5 b6 b7).testBit 2 = b5 ∧ (byte8 b0 b1 b2 b3 b4 b5 b6 b7).testBit 1 = b6 ∧ (byte8 b0 b1 b2 b3 b4 b5 b6 b7).testBit 0 = b7 := by decide
theorem byteS_lt (S : Nat → Bool) (i : Nat) : byteS S i < 256 := by rw [byteS_eq]; exact (byte8_bits ..).1
theorem byteS_bit (S : Nat → Bool) (i k : Nat) (hk : k < 8) : (byteS S i).testBit (7 - k) = S (8 * i + k) := by
  rw [byteS_eq]
  obtain ⟨_, h0, h1, h2, h3, h4, h5, h6, h7⟩ := byte8_bits (S (8 * i)) (S (8 * i + 1)) (S (8 * i + 2)) (S (8 * i + 3)) (S (8 * i + 4)) (S (8 * i + 5)) (S (8 * i + 6)) (S (8 * i + 7))
  match k, hk with
  | 0, _ => exact h0
  | 1, _ => exact h1
  | 2, _ => exact h2
  | 3, _ => exact h3
  | 4, _ => exact h4
  | 5, _ => exact h5
  | 6, _ => exact h6
  | 7, _ => exact h7

/-- Bytes with the same bits are the same. -/
theorem byte_ext {a b : Nat} (ha : a < 256) (hb : b < 256) (h : ∀ k, k < 8 → a.testBit (7 - k) = b.testBit (7 - k)) : a = b := by
  apply Nat.eq_of_testBit_eq
  intro j
  by_cases hj : j < 8
  · have := h (7 - j) (by omega)
    rwa [show 7 - (7 - j) = j by omega] at this
  · have e : ∀ c : Nat, c < 256 → c.testBit j = false := by
      intro c hc
      apply Nat.testBit_lt_two_pow
      calc c < 2 ^ 8 := hc
        _ ≤ 2 ^ j := Nat.pow_le_pow_right (by decide) (by omega)
    rw [e a ha, e b hb]

/-- The byte that has one bit. -/
def maskN (i : Nat) : Nat := 128 >>> (i % 8)
theorem maskN_bit (i k : Nat) (hk : k < 8) : (maskN i).testBit (7 - k) = decide (k = i % 8) := by
  have h : i % 8 < 8 := Nat.mod_lt _ (by decide)
  have key : ∀ r, r < 8 → ∀ k, k < 8 → (128 >>> r).testBit (7 - k) = decide (k = r) := by decide
  exact key _ h _ hk
theorem maskN_lt (i : Nat) : maskN i < 256 := by
  have h : i % 8 < 8 := Nat.mod_lt _ (by decide)
  have key : ∀ r, r < 8 → 128 >>> r < 256 := by decide
  exact key _ h
theorem or_lt {a b : Nat} (ha : a < 256) (hb : b < 256) : a ||| b < 256 := Nat.or_lt_two_pow (n := 8) ha hb
theorem byteS_or (S : Nat → Bool) (i q : Nat) (hq : q = i / 8) : byteS S q ||| maskN i = byteS (fun j => S j || j == i) q := by
  refine byte_ext (or_lt (byteS_lt _ _) (maskN_lt _)) (byteS_lt _ _) fun k hk => ?_
  rw [Nat.testBit_or, byteS_bit S q k hk, maskN_bit i k hk, byteS_bit _ q k hk]
  congr 1
  subst hq
  by_cases h : k = i % 8
  · have : 8 * (i / 8) + k = i := by omega
    simp [h]
    omega
  · have : 8 * (i / 8) + k ≠ i := by omega
    simp [h, this]
theorem byteS_congr {S T : Nat → Bool} {q : Nat} (h : ∀ k, k < 8 → S (8 * q + k) = T (8 * q + k)) : byteS S q = byteS T q := by
  refine byte_ext (byteS_lt _ _) (byteS_lt _ _) fun k hk => ?_
  rw [byteS_bit S q k hk, byteS_bit T q k hk, h k hk]
/-- A mask asks for its bit. -/
theorem and_mask {a : Nat} (ha : a < 256) (i : Nat) : (a &&& maskN i = 0) ↔ a.testBit (7 - i % 8) = false := by
  have hr : i % 8 < 8 := Nat.mod_lt _ (by decide)
  constructor
  · intro h
    have h2 : (a &&& maskN i).testBit (7 - i % 8) = false := by rw [h]; simp
    rw [Nat.testBit_and, maskN_bit i _ hr] at h2
    simpa using h2
  · intro h
    refine byte_ext (Nat.lt_of_le_of_lt Nat.and_le_left ha) (by decide) fun k hk => ?_
    rw [Nat.testBit_and, maskN_bit i k hk]
    by_cases e : k = i % 8
    · subst e; simp [h]
    · simp [e]

theorem bodyS_length (m : Nat) (S : Nat → Bool) : (bodyS m S).length = m / 8 := by simp [bodyS]
theorem bodyS_get (m : Nat) (S : Nat → Bool) (q : Nat) (h : q < m / 8) : (bodyS m S).getD q 0 = byteS S q := by simp [bodyS, List.getD, h]
theorem bodyS_congr {m : Nat} {S T : Nat → Bool} (hm : m % 8 = 0) (h : ∀ i, i < m → S i = T i) : bodyS m S = bodyS m T := by
  unfold bodyS
  apply List.map_congr_left
  intro q hq
  simp only [List.mem_range] at hq
  exact byteS_congr fun k hk => h _ (by omega)
theorem bodyS_set (m : Nat) (S : Nat → Bool) (i : Nat) (hm : m % 8 = 0) (hi : i < m) : (bodyS m S).set (i / 8) (byteS S (i / 8) ||| maskN i) = bodyS m (fun j => S j || j == i) := by
  apply List.ext_getElem
  · simp [bodyS]
  · intro q h1 h2
    simp only [bodyS_length] at h2
    by_cases e : i / 8 = q
    · subst e
      rw [List.getElem_set_self, byteS_or S i _ rfl]
      simp [bodyS]
    · rw [List.getElem_set_ne e]
      simp only [bodyS, List.getElem_map, List.getElem_range]
      refine byteS_congr fun k hk => ?_
      have : (8 * q + k == i) = false := by simp; omega
      simp [this]
theorem bitAt_bodyS (m : Nat) (S : Nat → Bool) (i : Nat) (hm : m % 8 = 0) (hi : i < m) : bitAt (bodyS m S) i = S i := by
  have hr : i % 8 < 8 := Nat.mod_lt _ (by decide)
  unfold bitAt
  rw [bodyS_get m S _ (by omega), byteS_bit S _ _ hr]
  congr 1
  omega
/-- Whatever bytes there are, they are the bytes of their bits. -/
theorem body_is {b : List Nat} {m : Nat} (hl : b.length = m / 8) (hb : ∀ x ∈ b, x < 256) : b = bodyS m (bitAt b) := by
  apply List.ext_getElem
  · simp [bodyS, hl]
  · intro q h1 h2
    simp only [bodyS, List.getElem_map, List.getElem_range]
    refine byte_ext (hb _ (List.getElem_mem h1)) (byteS_lt _ _) fun k hk => ?_
    rw [byteS_bit _ _ _ hk]
    unfold bitAt
    rw [show (8 * q + k) / 8 = q by omega, show (8 * q + k) % 8 = k by omega]
    simp [List.getD, h1]
theorem filt_length (p m : Nat) (S : Nat → Bool) : (filt p m S).length = 6 + m / 8 := by simp [filt, headL, bodyS]; omega
theorem filt_bys {p m : Nat} (S : Nat → Bool) (hp : p < 256) (hm : m < 4294967296) : ∀ x ∈ filt p m S, x < 256 := by
  intro x hx
  simp only [filt, headL, List.mem_append, List.mem_cons, List.not_mem_nil, or_false, bodyS, List.mem_map] at hx
  rcases hx with (rfl | rfl | rfl | rfl | rfl | rfl) | ⟨q, _, rfl⟩
  · decide
  · exact hp
  · omega
  · omega
  · omega
  · omega
  · exact byteS_lt _ _
theorem filt_congr {p m : Nat} {S T : Nat → Bool} (hm : m % 8 = 0) (h : ∀ i, i < m → S i = T i) : filt p m S = filt p m T := by unfold filt; rw [bodyS_congr hm h]
theorem filt_set (p m : Nat) (S : Nat → Bool) (i : Nat) (hm : m % 8 = 0) (hi : i < m) : (filt p m S).set (6 + i / 8) ((filt p m S).getD (6 + i / 8) 0 ||| maskN i) = filt p m (fun j => S j || j == i) := by
  have e : (filt p m S).getD (6 + i / 8) 0 = byteS S (i / 8) := by
    rw [← bodyS_get m S (i / 8) (by omega)]
    have h6 : (headL p m).length = 6 := rfl
    have h : (filt p m S)[6 + i / 8]? = (bodyS m S)[i / 8]? := by
      unfold filt
      rw [List.getElem?_append_right (by omega), h6, show 6 + i / 8 - 6 = i / 8 by omega]
    unfold List.getD
    rw [h]
  rw [e]
  unfold filt
  rw [List.set_append_right _ _ (by simp [headL])]
  rw [show (6 + i / 8 - (headL p m).length) = i / 8 by simp [headL]]
  rw [bodyS_set m S i hm hi]

/-- How many unlike keys. -/
def addK (acc : List (List Nat)) (k : List Nat) : List (List Nat) := if k ∈ acc then acc else acc ++ [k]
def uniq (ks : List (List Nat)) : List (List Nat) := ks.foldl addK []
theorem uniq_snoc (ks : List (List Nat)) (k : List Nat) : uniq (ks ++ [k]) = addK (uniq ks) k := by simp [uniq, List.foldl_append]
theorem mem_addK {acc : List (List Nat)} {k x : List Nat} : x ∈ addK acc k ↔ x ∈ acc ∨ x = k := by
  unfold addK
  split
  · constructor
    · exact .inl
    · rintro (h | rfl)
      · exact h
      · assumption
  · simp
theorem mem_uniq {ks : List (List Nat)} {x : List Nat} : x ∈ uniq ks ↔ x ∈ ks := by
  have key : ∀ (l acc : List (List Nat)), x ∈ l.foldl addK acc ↔ x ∈ acc ∨ x ∈ l := by
    intro l
    induction l with
    | nil => intro acc; simp
    | cons k l ih => intro acc; rw [List.foldl_cons, ih, mem_addK]; simp [or_assoc]
  have := key ks []
  simpa [uniq] using this
theorem uniq_le (ks : List (List Nat)) : (uniq ks).length ≤ ks.length := by
  have key : ∀ (l acc : List (List Nat)), (l.foldl addK acc).length ≤ acc.length + l.length := by
    intro l
    induction l with
    | nil => intro acc; simp
    | cons k l ih =>
      intro acc
      have h1 := ih (addK acc k)
      have h2 : (addK acc k).length ≤ acc.length + 1 := by unfold addK; split <;> simp
      simp only [List.foldl_cons, List.length_cons]
      omega
  have := key ks []
  simpa [uniq] using this
theorem uniq_nodup (ks : List (List Nat)) : (uniq ks).Nodup := by
  have key : ∀ (l acc : List (List Nat)), acc.Nodup → (l.foldl addK acc).Nodup := by
    intro l
    induction l with
    | nil => intro acc h; exact h
    | cons k l ih =>
      intro acc h
      refine ih _ ?_
      unfold addK
      split
      · exact h
      · rename_i hk
        rw [List.nodup_append]
        refine ⟨h, by simp, ?_⟩
        intro a ha b hb
        simp at hb
        subst hb
        intro e
        subst e
        exact hk ha
  exact key ks [] List.nodup_nil

/-- The shape of a filter; a filter. -/
def pOf (b : Nat) : Nat := max (7 * b / 10) 1
def mOf (b n : Nat) : Nat := max ((n * b + 7) / 8 * 8) 64
def keyS (ks : List (List Nat)) (p m : Nat) (i : Nat) : Bool := ks.any fun k => (placesN k p m).contains i
def buildL (b : Nat) (ks : List (List Nat)) : List Nat := filt (pOf b) (mOf b (uniq ks).length) (keyS ks (pOf b) (mOf b (uniq ks).length))
theorem pOf_le {b : Nat} (h : b ≤ 20) : 1 ≤ pOf b ∧ pOf b ≤ 14 := by unfold pOf; omega
theorem mOf_le {b n : Nat} (h : b ≤ 20) (hn : n ≤ 1048576) : 64 ≤ mOf b n ∧ mOf b n ≤ 20971520 ∧ mOf b n % 8 = 0 := by
  have : n * b ≤ 1048576 * 20 := Nat.mul_le_mul hn h
  unfold mOf
  omega

/-- What a filter says of itself. -/
def pIn (L : List Nat) : Nat := L.getD 1 0
def mIn (L : List Nat) : Nat := L.getD 2 0 * 16777216 + L.getD 3 0 * 65536 + L.getD 4 0 * 256 + L.getD 5 0
def good (L : List Nat) : Bool := decide (6 ≤ L.length ∧ L.getD 0 0 = 66 ∧ (1 ≤ pIn L ∧ pIn L ≤ 14 ∧ mIn L % 8 = 0 ∧ 64 ≤ mIn L ∧ mIn L ≤ 20971520) ∧ L.length = 6 + mIn L / 8)
def bitsOf (L : List Nat) : Nat → Bool := bitAt (L.drop 6)
theorem good_filt {p m : Nat} (S : Nat → Bool) (hp : 1 ≤ p ∧ p ≤ 14) (hm : 64 ≤ m ∧ m ≤ 20971520 ∧ m % 8 = 0) : good (filt p m S) = true ∧ pIn (filt p m S) = p ∧ mIn (filt p m S) = m := by
  have h1 : pIn (filt p m S) = p := by simp [pIn, filt, headL]
  have h2 : mIn (filt p m S) = m := by simp [mIn, filt, headL]; omega
  refine ⟨?_, h1, h2⟩
  unfold good
  rw [h1, h2, filt_length]
  have h0 : (filt p m S).getD 0 0 = 66 := by simp [filt, headL]
  rw [h0]
  simp
  omega
theorem bitsOf_filt {p m : Nat} (S : Nat → Bool) (hm : m % 8 = 0) {i : Nat} (hi : i < m) : bitsOf (filt p m S) i = S i := by
  unfold bitsOf
  have : (filt p m S).drop 6 = bodyS m S := by simp [filt, headL]
  rw [this, bitAt_bodyS m S i hm hi]
theorem six : ∀ {L : List Nat}, 6 ≤ L.length → ∃ a b c d e f r, L = a :: b :: c :: d :: e :: f :: r
  | a :: b :: c :: d :: e :: f :: r, _ => ⟨a, b, c, d, e, f, r, rfl⟩
  | [], h => by simp at h
  | [_], h => by simp at h
  | [_, _], h => by simp at h
  | [_, _, _], h => by simp at h
  | [_, _, _, _], h => by simp at h
  | [_, _, _, _, _], h => by simp at h
/-- Whatever filter there is, it is the filter of its bits. -/
theorem filt_is {L : List Nat} (hb : ∀ x ∈ L, x < 256) (hg : good L = true) : L = filt (pIn L) (mIn L) (bitsOf L) := by
  unfold good at hg
  obtain ⟨h6, h0, ⟨hp1, hp2, hm8, hm1, hm2⟩, hl⟩ := of_decide_eq_true hg
  have hd : L.drop 6 = bodyS (mIn L) (bitsOf L) := by
    refine body_is (by simp; omega) fun x hx => hb x (List.mem_of_mem_drop hx)
  have ht : L.take 6 = headL (pIn L) (mIn L) := by
    clear hd hl hm8 hm1 hm2 hp1 hp2 hg
    obtain ⟨a, b, c, d, e, f, r, rfl⟩ := six h6
    have hc := hb c (by simp)
    have hd' := hb d (by simp)
    have he := hb e (by simp)
    have hf := hb f (by simp)
    have e1 : (a :: b :: c :: d :: e :: f :: r).take 6 = [a, b, c, d, e, f] := rfl
    have e2 : pIn (a :: b :: c :: d :: e :: f :: r) = b := rfl
    have e3 : mIn (a :: b :: c :: d :: e :: f :: r) = c * 16777216 + d * 65536 + e * 256 + f := by simp [mIn]
    have e4 : a = 66 := by simpa using h0
    rw [e1, e2, e3, e4]
    unfold headL
    congr 3
    · omega
    · congr 1
      · omega
      · congr 1
        · omega
        · congr 1
          omega
  unfold filt
  rw [← hd, ← ht, List.take_append_drop]

/-- Has, Union, Ones. -/
def hasL (L k : List Nat) : Bool := (placesN k (pIn L) (mIn L)).all (bitsOf L)
def onesN (b : Nat) : Nat := (List.range 8).foldl (fun c k => c + (b.testBit k).toNat) 0
def onesL (L : List Nat) : Nat := if good L then (L.drop 6).foldl (fun c b => c + onesN b) 0 else 0
def unionL (A B : List Nat) : List Nat := A.take 6 ++ (A.drop 6).zipWith (· ||| ·) (B.drop 6)

theorem has_key {b : Nat} {ks : List (List Nat)} {k : List Nat} (hb : b ≤ 20) (hn : ks.length ≤ 1048576) (hk : k ∈ ks) : good (buildL b ks) = true ∧ hasL (buildL b ks) k = true := by
  have hp := pOf_le hb
  have hm := mOf_le hb (Nat.le_trans (uniq_le ks) hn)
  obtain ⟨h1, h2, h3⟩ := good_filt (keyS ks (pOf b) (mOf b (uniq ks).length)) hp hm
  refine ⟨h1, ?_⟩
  unfold hasL buildL
  rw [h2, h3, List.all_eq_true]
  intro i hi
  rw [bitsOf_filt _ hm.2.2 (placesN_lt (by omega) hi)]
  unfold keyS
  rw [List.any_eq_true]
  exact ⟨k, hk, by simpa using hi⟩

end Go.Proofs.Ytieehdhinponcaa

namespace Go.Proofs.Ytieehdhinponcaa
open Go.RowKit
set_option linter.unusedVariables false

/-- A shape as a value. -/
def shV (p m : Nat) : Value := .agg #[.int .u8 (p : Int), .int .u32 (m : Int)]

set_option maxRecDepth 100000 in
set_option maxHeartbeats 400000 in
theorem size_any (p m : Nat) (hm : m < 4294967296) (w : World) :
    Calls Try.prog 47 #[shV p m] w fun e w' => e = .returned (.int .i64 ((6 + m / 8 : Nat) : Int)) ∧ Below w.heap.size w w' := by
  unfold shV
  go_enter Try.func47, Try.ntmps47
  go_wp2
  go_ret
  exact ⟨congrArg (fun z : Int => Ending.returned (Value.int .i64 z)) (show (6 + (m : Int) / 8) = ((6 + m / 8 : Nat) : Int) by omega), (Below.refl _ _).alloc (Nat.le_refl _) _⟩

theorem mask_is (i : Nat) : (128 / 2 ^ (i % 8) : Int) = ((maskN i : Nat) : Int) := by
  have h : i % 8 < 8 := Nat.mod_lt _ (by decide)
  unfold maskN
  have key : ∀ r, r < 8 → (128 / 2 ^ r : Int) = ((128 >>> r : Nat) : Int) := by decide
  exact key _ h
set_option maxRecDepth 100000 in
set_option maxHeartbeats 400000 in
theorem mask_any (i : Nat) (hi : i < 4294967296) (w : World) :
    Calls Try.prog 37 #[.int .i64 (i : Int)] w fun e w' => e = .returned (.int .u8 ((maskN i : Nat) : Int)) ∧ w' = w := by
  have hm := mask_is i
  go_enter Try.func37, Try.ntmps37
  go_wp2
  go_ret
  exact ⟨by first | rfl | exact congrArg (fun z : Int => Ending.returned (Value.int .u8 z)) hm, rfl⟩

def mayN (p m : Nat) : Bool := decide (1 ≤ p ∧ p ≤ 14 ∧ m % 8 = 0 ∧ 64 ≤ m ∧ m ≤ 20971520)
set_option maxRecDepth 100000 in
set_option maxHeartbeats 400000 in
theorem may_any (p m : Nat) (hp : p < 256) (hm : m < 4294967296) (w : World) :
    Calls Try.prog 49 #[shV p m] w fun e w' => e = .returned (.bool (mayN p m)) ∧ Below w.heap.size w w' := by
  unfold shV
  go_enter Try.func49, Try.ntmps49
  go_wp2
  all_goals go_ret
  all_goals refine ⟨congrArg (fun b : Bool => Ending.returned (Value.bool b)) (?_ : _ = mayN p m), (Below.refl _ _).alloc (Nat.le_refl _) _⟩
  all_goals (unfold mayN; first | (symm; rw [decide_eq_false_iff_not]; omega) | (rw [decide_eq_decide]; omega) | skip)

end Go.Proofs.Ytieehdhinponcaa

namespace Go.Proofs.Ytieehdhinponcaa
open Go.RowKit
set_option linter.unusedVariables false
set_option maxRecDepth 100000 in
set_option maxHeartbeats 400000 in
theorem shapeOf_any (b n : Nat) (hb : 1 ≤ b ∧ b ≤ 20) (hn : n ≤ 1048576) (w : World) :
    Calls Try.prog 34 #[.int .i64 (b : Int), .int .i64 (n : Int)] w fun e w' => e = .returned (shV (pOf b) (mOf b n)) ∧ Below w.heap.size w w' := by
  have h1 : n * b ≤ 1048576 * 20 := Nat.mul_le_mul hn hb.2
  go_enter Try.func34, Try.ntmps34
  go_wp2
  all_goals have hnb : (n : Int) * (b : Int) = ((n * b : Nat) : Int) := by simp
  all_goals refine bodyPost_ret (v := shV (pOf b) (mOf b n)) ?_ rfl ⟨rfl, (Below.refl _ _).alloc (Nat.le_refl _) _⟩
  all_goals (unfold shV; simp [results, Try.results34, go_sem])
  all_goals (refine ⟨?_, ?_⟩; (unfold pOf; omega); (unfold mOf; omega))

theorem mul_wrap (q : Nat) : IntKind.u64.wrap ((q : Int) * 1099511628211) = ((q * 1099511628211 % 18446744073709551616 : Nat) : Int) := by
  rw [IntKind.wrap_u64]
  omega
set_option maxRecDepth 100000 in
set_option maxHeartbeats 400000 in
theorem hash_any {v : Value} {bs : List Nat} {w : World} (hr : Rd w v bs) :
    Calls Try.prog 39 #[v] w fun e w' => e = .returned (.agg #[.int .u32 ((hX bs : Nat) : Int), .int .u32 ((hL bs : Nat) : Int)]) ∧ Below w.heap.size w w' := by
  obtain ⟨hby, a, cap, rfl, hle, hm, hl48, hnone, hat⟩ := hr
  have hat := hat.later ((Below.refl _ _).alloc (Nat.le_refl _) (.cells #[.int .u32 0, .int .u32 0] 63))
  go_enter Try.func39, Try.ntmps39
  go_wp2
  go_loop [3, 8] (fun x i => ∃ k r : Nat, k ≤ bs.length ∧ i = .int .i64 (k : Int) ∧ x = .int .u64 (r : Int) ∧ r < 18446744073709551616 ∧ r = hashN (bs.take k)) (fun _ i => bs.length - (intOf i).toNat)
  case atStart => exact ⟨0, 14695981039346656037, Nat.zero_le _, rfl, rfl, by omega, rfl⟩
  case round =>
    obtain ⟨k, r, hk, rfl, rfl, hr, hrr⟩ := hrel
    have HR : Hid (r = hashN (bs.take k)) := hrr
    clear hrr
    by_cases hlt : k < bs.length
    · have hlt2 : (k : Int) < (bs.length : Int) := by omega
      rcases hat with rfl | ⟨b, off, rfl, hc⟩
      · simp at hlt
      have hcc := hc k hlt
      clear hc
      have hcl := hby.get k
      obtain ⟨c, hcd⟩ : ∃ c, c = bs.getD k 0 := ⟨_, rfl⟩
      rw [← hcd] at hcc hcl
      have HC : Hid (c = bs.getD k 0) := hcd
      clear hcd
      obtain ⟨q, hq⟩ : ∃ q, q = r ^^^ c := ⟨_, rfl⟩
      have lq : q < 18446744073709551616 := hq ▸ Nat.xor_lt_two_pow (n := 64) hr (by omega)
      have e1 : bits .xor .u64 (r : Int) (c : Int) = (q : Int) := by rw [hq]; exact u64_xor_nat r c hr (by omega)
      have HQ : Hid (q = r ^^^ c) := hq
      clear hq
      go_wp2
      go_round
      case rel =>
        refine ⟨k + 1, q * 1099511628211 % 18446744073709551616, by omega, by go_num, by rw [mul_wrap], Nat.mod_lt _ (by decide), ?_⟩
        rw [take_succ_getD bs k hlt, hashN_snoc, ← HR.out, ← HC.out]
        unfold hashS
        rw [HQ.out]
      case measure => simp [intOf]; omega
    · have hk2 : bs.take k = bs := List.take_of_length_le (by omega)
      have hr2 := HR.out
      rw [hk2] at hr2
      have HR2 : Hid (r = hashN bs) := hr2
      clear hr2
      go_wp2
      refine bodyPost_ret (v := .agg #[.int .u32 ((hX bs : Nat) : Int), .int .u32 ((hL bs : Nat) : Int)]) ?_ rfl ⟨rfl, ?_⟩
      · simp [results, Try.results39, go_sem]
        unfold hX hL
        rw [← HR2.out]
        omega
      · exact (Below.refl _ _).alloc (Nat.le_refl _) _
end Go.Proofs.Ytieehdhinponcaa
