import Derived.Laws.BitsAllLaws
import Derived.RowKit
import Derived.Test.YtieehdhinponcaaProg
import Derived.WalkKit
import Derived.WalkSpells
import Derived.WalkLawsBesides
import Derived.Laws.BytesArg
namespace Go.Proofs.Ytieehdhinponcaa
open Go.RowKit
set_option linter.unusedVariables false

/-- FNV-1a of 64 bits. -/
def hashS (h b : Nat) : Nat := (h ^^^ b) * 1099511628211 % 18446744073709551616
def hashN (bs : List Nat) : Nat := bs.foldl hashS 14695981039346656037
theorem hashN_snoc (a : List Nat) (c : Nat) : hashN (a ++ [c]) = hashS (hashN a) c := by
  unfold hashN
  rw [List.foldl_append, List.foldl_cons, List.foldl_nil]
theorem hashS_lt (h b : Nat) : hashS h b < 18446744073709551616 := Nat.mod_lt _ (by decide)
theorem hashN_lt (bs : List Nat) : hashN bs < 18446744073709551616 := by
  have key : ∀ (l : List Nat) (h : Nat), h < 18446744073709551616 → l.foldl hashS h < 18446744073709551616 := by
    intro l
    induction l with
    | nil => intro h hh; exact hh
    | cons c l ih => intro h hh; exact ih _ (hashS_lt _ _)
  exact key bs _ (by decide)

/-- The two halves of a hash; a key's places. -/
def hX (k : List Nat) : Nat := hashN k / 4294967296
def hL (k : List Nat) : Nat := hashN k % 4294967296
def stepN (x y : Nat) (m j : Nat) : Nat := (x + j * (y ||| 1)) % 4294967296 % m
def placeN (k : List Nat) (m j : Nat) : Nat := stepN (hX k) (hL k) m j
def placesN (k : List Nat) (p m : Nat) : List Nat := (List.range p).map (placeN k m)
theorem hX_lt (k : List Nat) : hX k < 4294967296 := by have := hashN_lt k; unfold hX; omega
theorem hL_lt (k : List Nat) : hL k < 4294967296 := Nat.mod_lt _ (by decide)
theorem placeN_lt (k : List Nat) {m : Nat} (hm : 0 < m) (j : Nat) : placeN k m j < m := Nat.mod_lt _ hm
theorem placesN_lt {k : List Nat} {p m i : Nat} (hm : 0 < m) (h : i ∈ placesN k p m) : i < m := by
  simp only [placesN, List.mem_map] at h
  obtain ⟨j, _, rfl⟩ := h
  exact placeN_lt k hm j

/-- Bit i of bytes. -/
def bitAt (b : List Nat) (i : Nat) : Bool := (b.getD (i / 8) 0).testBit (7 - i % 8)
def byteS (S : Nat → Bool) (i : Nat) : Nat := (List.range 8).foldl (fun c k => 2 * c + (if S (8 * i + k) then 1 else 0)) 0
def bodyS (m : Nat) (S : Nat → Bool) : List Nat := (List.range (m / 8)).map (byteS S)
def headL (p m : Nat) : List Nat := [66, p, m / 16777216, m / 65536 % 256, m / 256 % 256, m % 256]
def filt (p m : Nat) (S : Nat → Bool) : List Nat := headL p m ++ bodyS m S

def byte8 (b0 b1 b2 b3 b4 b5 b6 b7 : Bool) : Nat := 128 * b0.toNat + 64 * b1.toNat + 32 * b2.toNat + 16 * b3.toNat + 8 * b4.toNat + 4 * b5.toNat + 2 * b6.toNat + b7.toNat
theorem byteS_eq (S : Nat → Bool) (i : Nat) : byteS S i = byte8 (S (8 * i)) (S (8 * i + 1)) (S (8 * i + 2)) (S (8 * i + 3)) (S (8 * i + 4)) (S (8 * i + 5)) (S (8 * i + 6)) (S (8 * i + 7)) := by
  have e : List.range 8 = [0, 1, 2, 3, 4, 5, 6, 7] := by decide
  have h : ∀ b : Bool, (if b then 1 else 0) = b.toNat := by decide
  simp only [byteS, e, List.foldl_cons, List.foldl_nil, h, byte8, Nat.add_zero]
  omega
theorem byte8_bits : ∀ b0 b1 b2 b3 b4 b5 b6 b7 : Bool, byte8 b0 b1 b2 b3 b4 b5 b6 b7 < 256 ∧ (byte8 b0 b1 b2 b3 b4 b5 b6 b7).testBit 7 = b0 ∧ (byte8 b0 b1 b2 b3 b4 b5 b6 b7).testBit 6 = b1 ∧ (byte8 b0 b1 b2 b3 b4 b5 b6 b7).testBit 5 = b2 ∧ (byte8 b0 b1 b2 b3 b4 b5 b6 b7).testBit 4 = b3
    ∧ (byte8 b0 b1 b2 b3 b4 b5 b6 b7).testBit 3 = b4 ∧ (byte8 b0 b1 b2 b3 b4 b5 b6 b7).testBit 2 = b5 ∧ (byte8 b0 b1 b2 b3 b4 b5 b6 b7).testBit 1 = b6 ∧ (byte8 b0 b1 b2 b3 b4 b5 b6 b7).testBit 0 = b7 := by decide
theorem byteS_lt (S : Nat → Bool) (i : Nat) : byteS S i < 256 := by rw [byteS_eq]; exact (byte8_bits ..).1
theorem byteS_bit (S : Nat → Bool) (i k : Nat) (hk : k < 8) : (byteS S i).testBit (7 - k) = S (8 * i + k) := by
  rw [byteS_eq]
  obtain ⟨_, h0, h1, h2, h3, h4, h5, h6, h7⟩ := byte8_bits (S (8 * i)) (S (8 * i + 1)) (S (8 * i + 2)) (S (8 * i + 3)) (S (8 * i + 4)) (S (8 * i + 5)) (S (8 * i + 6)) (S (8 * i + 7))
  match k, hk with
  | 0, _ => exact h0
  | 1, _ => exact h1
  | 2, _ => exact h2
  | 3, _ => exact h3
  | 4, _ => exact h4
  | 5, _ => exact h5
  | 6, _ => exact h6
  | 7, _ => exact h7

/-- Bytes with the same bits are the same. -/
theorem byte_ext {a b : Nat} (ha : a < 256) (hb : b < 256) (h : ∀ k, k < 8 → a.testBit (7 - k) = b.testBit (7 - k)) : a = b := by
  apply Nat.eq_of_testBit_eq
  intro j
  by_cases hj : j < 8
  · have := h (7 - j) (by omega)
    rwa [show 7 - (7 - j) = j by omega] at this
  · have e : ∀ c : Nat, c < 256 → c.testBit j = false := by
      intro c hc
      apply Nat.testBit_lt_two_pow
      calc c < 2 ^ 8 := hc
        _ ≤ 2 ^ j := Nat.pow_le_pow_right (by decide) (by omega)
    rw [e a ha, e b hb]

/-- The byte that has one bit. -/
def maskN (i : Nat) : Nat := 128 >>> (i % 8)
theorem maskN_bit (i k : Nat) (hk : k < 8) : (maskN i).testBit (7 - k) = decide (k = i % 8) := by
  have h : i % 8 < 8 := Nat.mod_lt _ (by decide)
  have key : ∀ r, r < 8 → ∀ k, k < 8 → (128 >>> r).testBit (7 - k) = decide (k = r) := by decide
  exact key _ h _ hk
theorem maskN_lt (i : Nat) : maskN i < 256 := by
  have h : i % 8 < 8 := Nat.mod_lt _ (by decide)
  have key : ∀ r, r < 8 → 128 >>> r < 256 := by decide
  exact key _ h
theorem or_lt {a b : Nat} (ha : a < 256) (hb : b < 256) : a ||| b < 256 := Nat.or_lt_two_pow (n := 8) ha hb
theorem byteS_or (S : Nat → Bool) (i q : Nat) (hq : q = i / 8) : byteS S q ||| maskN i = byteS (fun j => S j || j == i) q := by
  refine byte_ext (or_lt (byteS_lt _ _) (maskN_lt _)) (byteS_lt _ _) fun k hk => ?_
  rw [Nat.testBit_or, byteS_bit S q k hk, maskN_bit i k hk, byteS_bit _ q k hk]
  congr 1
  subst hq
  by_cases h : k = i % 8
  · have : 8 * (i / 8) + k = i := by omega
    simp [h]
    omega
  · have : 8 * (i / 8) + k ≠ i := by omega
    simp [h, this]
theorem byteS_congr {S T : Nat → Bool} {q : Nat} (h : ∀ k, k < 8 → S (8 * q + k) = T (8 * q + k)) : byteS S q = byteS T q := by
  refine byte_ext (byteS_lt _ _) (byteS_lt _ _) fun k hk => ?_
  rw [byteS_bit S q k hk, byteS_bit T q k hk, h k hk]
/-- A mask asks for its bit. -/
theorem and_mask {a : Nat} (ha : a < 256) (i : Nat) : (a &&& maskN i = 0) ↔ a.testBit (7 - i % 8) = false := by
  have hr : i % 8 < 8 := Nat.mod_lt _ (by decide)
  constructor
  · intro h
    have h2 : (a &&& maskN i).testBit (7 - i % 8) = false := by rw [h]; simp
    rw [Nat.testBit_and, maskN_bit i _ hr] at h2
    simpa using h2
  · intro h
    refine byte_ext (Nat.lt_of_le_of_lt Nat.and_le_left ha) (by decide) fun k hk => ?_
    rw [Nat.testBit_and, maskN_bit i k hk]
    by_cases e : k = i % 8
    · subst e; simp [h]
    · simp [e]

theorem bodyS_length (m : Nat) (S : Nat → Bool) : (bodyS m S).length = m / 8 := by simp [bodyS]
theorem bodyS_get (m : Nat) (S : Nat → Bool) (q : Nat) (h : q < m / 8) : (bodyS m S).getD q 0 = byteS S q := by simp [bodyS, List.getD, h]
theorem bodyS_congr {m : Nat} {S T : Nat → Bool} (hm : m % 8 = 0) (h : ∀ i, i < m → S i = T i) : bodyS m S = bodyS m T := by
  unfold bodyS
  apply List.map_congr_left
  intro q hq
  simp only [List.mem_range] at hq
  exact byteS_congr fun k hk => h _ (by omega)
theorem bodyS_set (m : Nat) (S : Nat → Bool) (i : Nat) (hm : m % 8 = 0) (hi : i < m) : (bodyS m S).set (i / 8) (byteS S (i / 8) ||| maskN i) = bodyS m (fun j => S j || j == i) := by
  apply List.ext_getElem
  · simp [bodyS]
  · intro q h1 h2
    simp only [bodyS_length] at h2
    by_cases e : i / 8 = q
    · subst e
      rw [List.getElem_set_self, byteS_or S i _ rfl]
      simp [bodyS]
    · rw [List.getElem_set_ne e]
      simp only [bodyS, List.getElem_map, List.getElem_range]
      refine byteS_congr fun k hk => ?_
      have : (8 * q + k == i) = false := by simp; omega
      simp [this]
theorem bitAt_bodyS (m : Nat) (S : Nat → Bool) (i : Nat) (hm : m % 8 = 0) (hi : i < m) : bitAt (bodyS m S) i = S i := by
  have hr : i % 8 < 8 := Nat.mod_lt _ (by decide)
  unfold bitAt
  rw [bodyS_get m S _ (by omega), byteS_bit S _ _ hr]
  congr 1
  omega
/-- Whatever bytes there are, they are the bytes of their bits. -/
theorem body_is {b : List Nat} {m : Nat} (hl : b.length = m / 8) (hb : ∀ x ∈ b, x < 256) : b = bodyS m (bitAt b) := by
  apply List.ext_getElem
  · simp [bodyS, hl]
  · intro q h1 h2
    simp only [bodyS, List.getElem_map, List.getElem_range]
    refine byte_ext (hb _ (List.getElem_mem h1)) (byteS_lt _ _) fun k hk => ?_
    rw [byteS_bit _ _ _ hk]
    unfold bitAt
    rw [show (8 * q + k) / 8 = q by omega, show (8 * q + k) % 8 = k by omega]
    simp [List.getD, h1]
theorem filt_length (p m : Nat) (S : Nat → Bool) : (filt p m S).length = 6 + m / 8 := by simp [filt, headL, bodyS]; omega
theorem filt_bys {p m : Nat} (S : Nat → Bool) (hp : p < 256) (hm : m < 4294967296) : ∀ x ∈ filt p m S, x < 256 := by
  intro x hx
  simp only [filt, headL, List.mem_append, List.mem_cons, List.not_mem_nil, or_false, bodyS, List.mem_map] at hx
  rcases hx with (rfl | rfl | rfl | rfl | rfl | rfl) | ⟨q, _, rfl⟩
  · decide
  · exact hp
  · omega
  · omega
  · omega
  · omega
  · exact byteS_lt _ _
theorem filt_congr {p m : Nat} {S T : Nat → Bool} (hm : m % 8 = 0) (h : ∀ i, i < m → S i = T i) : filt p m S = filt p m T := by unfold filt; rw [bodyS_congr hm h]
theorem filt_set (p m : Nat) (S : Nat → Bool) (i : Nat) (hm : m % 8 = 0) (hi : i < m) : (filt p m S).set (6 + i / 8) ((filt p m S).getD (6 + i / 8) 0 ||| maskN i) = filt p m (fun j => S j || j == i) := by
  have e : (filt p m S).getD (6 + i / 8) 0 = byteS S (i / 8) := by
    rw [← bodyS_get m S (i / 8) (by omega)]
    have h6 : (headL p m).length = 6 := rfl
    have h : (filt p m S)[6 + i / 8]? = (bodyS m S)[i / 8]? := by
      unfold filt
      rw [List.getElem?_append_right (by omega), h6, show 6 + i / 8 - 6 = i / 8 by omega]
    unfold List.getD
    rw [h]
  rw [e]
  unfold filt
  rw [List.set_append_right _ _ (by simp [headL])]
  rw [show (6 + i / 8 - (headL p m).length) = i / 8 by simp [headL]]
  rw [bodyS_set m S i hm hi]

/-- How many unlike keys. -/
def addK (acc : List (List Nat)) (k : List Nat) : List (List Nat) := if k ∈ acc then acc else acc ++ [k]
def uniq (ks : List (List Nat)) : List (List Nat) := ks.foldl addK []
theorem uniq_snoc (ks : List (List Nat)) (k : List Nat) : uniq (ks ++ [k]) = addK (uniq ks) k := by simp [uniq, List.foldl_append]
theorem mem_addK {acc : List (List Nat)} {k x : List Nat} : x ∈ addK acc k ↔ x ∈ acc ∨ x = k := by
  unfold addK
  split
  · constructor
    · exact .inl
    · rintro (h | rfl)
      · exact h
      · assumption
  · simp
theorem mem_uniq {ks : List (List Nat)} {x : List Nat} : x ∈ uniq ks ↔ x ∈ ks := by
  have key : ∀ (l acc : List (List Nat)), x ∈ l.foldl addK acc ↔ x ∈ acc ∨ x ∈ l := by
    intro l
    induction l with
    | nil => intro acc; simp
    | cons k l ih => intro acc; rw [List.foldl_cons, ih, mem_addK]; simp [or_assoc]
  have := key ks []
  simpa [uniq] using this
theorem uniq_le (ks : List (List Nat)) : (uniq ks).length ≤ ks.length := by
  have key : ∀ (l acc : List (List Nat)), (l.foldl addK acc).length ≤ acc.length + l.length := by
    intro l
    induction l with
    | nil => intro acc; simp
    | cons k l ih =>
      intro acc
      have h1 := ih (addK acc k)
      have h2 : (addK acc k).length ≤ acc.length + 1 := by unfold addK; split <;> simp
      simp only [List.foldl_cons, List.length_cons]
      omega
  have := key ks []
  simpa [uniq] using this
theorem uniq_nodup (ks : List (List Nat)) : (uniq ks).Nodup := by
  have key : ∀ (l acc : List (List Nat)), acc.Nodup → (l.foldl addK acc).Nodup := by
    intro l
    induction l with
    | nil => intro acc h; exact h
    | cons k l ih =>
      intro acc h
      refine ih _ ?_
      unfold addK
      split
      · exact h
      · rename_i hk
        rw [List.nodup_append]
        refine ⟨h, by simp, ?_⟩
        intro a ha b hb
        simp at hb
        subst hb
        intro e
        subst e
        exact hk ha
  exact key ks [] List.nodup_nil

/-- The shape of a filter; a filter. -/
def pOf (b : Nat) : Nat := max (7 * b / 10) 1
def mOf (b n : Nat) : Nat := max ((n * b + 7) / 8 * 8) 64
def keyS (ks : List (List Nat)) (p m : Nat) (i : Nat) : Bool := ks.any fun k => (placesN k p m).contains i
def buildL (b : Nat) (ks : List (List Nat)) : List Nat := filt (pOf b) (mOf b (uniq ks).length) (keyS ks (pOf b) (mOf b (uniq ks).length))
theorem pOf_le {b : Nat} (h : b ≤ 20) : 1 ≤ pOf b ∧ pOf b ≤ 14 := by unfold pOf; omega
theorem mOf_le {b n : Nat} (h : b ≤ 20) (hn : n ≤ 1048576) : 64 ≤ mOf b n ∧ mOf b n ≤ 20971520 ∧ mOf b n % 8 = 0 := by
  have : n * b ≤ 1048576 * 20 := Nat.mul_le_mul hn h
  unfold mOf
  omega

/-- What a filter says of itself. -/
def pIn (L : List Nat) : Nat := L.getD 1 0
def mIn (L : List Nat) : Nat := L.getD 2 0 * 16777216 + L.getD 3 0 * 65536 + L.getD 4 0 * 256 + L.getD 5 0
def good (L : List Nat) : Bool := decide (6 ≤ L.length ∧ L.getD 0 0 = 66 ∧ (1 ≤ pIn L ∧ pIn L ≤ 14 ∧ mIn L % 8 = 0 ∧ 64 ≤ mIn L ∧ mIn L ≤ 20971520) ∧ L.length = 6 + mIn L / 8)
def bitsOf (L : List Nat) : Nat → Bool := bitAt (L.drop 6)
theorem good_filt {p m : Nat} (S : Nat → Bool) (hp : 1 ≤ p ∧ p ≤ 14) (hm : 64 ≤ m ∧ m ≤ 20971520 ∧ m % 8 = 0) : good (filt p m S) = true ∧ pIn (filt p m S) = p ∧ mIn (filt p m S) = m := by
  have h1 : pIn (filt p m S) = p := by simp [pIn, filt, headL]
  have h2 : mIn (filt p m S) = m := by simp [mIn, filt, headL]; omega
  refine ⟨?_, h1, h2⟩
  unfold good
  rw [h1, h2, filt_length]
  have h0 : (filt p m S).getD 0 0 = 66 := by simp [filt, headL]
  rw [h0]
  simp
  omega
theorem bitsOf_filt {p m : Nat} (S : Nat → Bool) (hm : m % 8 = 0) {i : Nat} (hi : i < m) : bitsOf (filt p m S) i = S i := by
  unfold bitsOf
  have : (filt p m S).drop 6 = bodyS m S := by simp [filt, headL]
  rw [this, bitAt_bodyS m S i hm hi]
theorem six : ∀ {L : List Nat}, 6 ≤ L.length → ∃ a b c d e f r, L = a :: b :: c :: d :: e :: f :: r
  | a :: b :: c :: d :: e :: f :: r, _ => ⟨a, b, c, d, e, f, r, rfl⟩
  | [], h => by simp at h
  | [_], h => by simp at h
  | [_, _], h => by simp at h
  | [_, _, _], h => by simp at h
  | [_, _, _, _], h => by simp at h
  | [_, _, _, _, _], h => by simp at h
/-- Whatever filter there is, it is the filter of its bits. -/
theorem filt_is {L : List Nat} (hb : ∀ x ∈ L, x < 256) (hg : good L = true) : L = filt (pIn L) (mIn L) (bitsOf L) := by
  unfold good at hg
  obtain ⟨h6, h0, ⟨hp1, hp2, hm8, hm1, hm2⟩, hl⟩ := of_decide_eq_true hg
  have hd : L.drop 6 = bodyS (mIn L) (bitsOf L) := by
    refine body_is (by simp; omega) fun x hx => hb x (List.mem_of_mem_drop hx)
  have ht : L.take 6 = headL (pIn L) (mIn L) := by
    clear hd hl hm8 hm1 hm2 hp1 hp2 hg
    obtain ⟨a, b, c, d, e, f, r, rfl⟩ := six h6
    have hc := hb c (by simp)
    have hd' := hb d (by simp)
    have he := hb e (by simp)
    have hf := hb f (by simp)
    have e1 : (a :: b :: c :: d :: e :: f :: r).take 6 = [a, b, c, d, e, f] := rfl
    have e2 : pIn (a :: b :: c :: d :: e :: f :: r) = b := rfl
    have e3 : mIn (a :: b :: c :: d :: e :: f :: r) = c * 16777216 + d * 65536 + e * 256 + f := by simp [mIn]
    have e4 : a = 66 := by simpa using h0
    rw [e1, e2, e3, e4]
    unfold headL
    congr 3
    · omega
    · congr 1
      · omega
      · congr 1
        · omega
        · congr 1
          omega
  unfold filt
  rw [← hd, ← ht, List.take_append_drop]

/-- Has, Union, Ones. -/
def hasL (L k : List Nat) : Bool := (placesN k (pIn L) (mIn L)).all (bitsOf L)
def onesN (b : Nat) : Nat := (List.range 8).foldl (fun c k => c + (b.testBit k).toNat) 0
def onesL (L : List Nat) : Nat := if good L then (L.drop 6).foldl (fun c b => c + onesN b) 0 else 0
def unionL (A B : List Nat) : List Nat := A.take 6 ++ (A.drop 6).zipWith (· ||| ·) (B.drop 6)

theorem has_key {b : Nat} {ks : List (List Nat)} {k : List Nat} (hb : b ≤ 20) (hn : ks.length ≤ 1048576) (hk : k ∈ ks) : good (buildL b ks) = true ∧ hasL (buildL b ks) k = true := by
  have hp := pOf_le hb
  have hm := mOf_le hb (Nat.le_trans (uniq_le ks) hn)
  obtain ⟨h1, h2, h3⟩ := good_filt (keyS ks (pOf b) (mOf b (uniq ks).length)) hp hm
  refine ⟨h1, ?_⟩
  unfold hasL buildL
  rw [h2, h3, List.all_eq_true]
  intro i hi
  rw [bitsOf_filt _ hm.2.2 (placesN_lt (by omega) hi)]
  unfold keyS
  rw [List.any_eq_true]
  exact ⟨k, hk, by simpa using hi⟩

end Go.Proofs.Ytieehdhinponcaa

namespace Go.Proofs.Ytieehdhinponcaa
open Go.RowKit
set_option linter.unusedVariables false

theorem und_bytes : Try.prog.underlying 24 = some (.slice 5) := by kernel_rfl
theorem und_byte : Try.prog.underlying 5 = some (.int .u8) := by kernel_rfl
theorem und_string : Try.prog.underlying 9 = some .string := by kernel_rfl
theorem und_parts : Try.prog.underlying 22 = some (.slice 24) := by kernel_rfl
theorem info_byte : (Try.prog.info? 5).map (fun i => (i.zero, i.size, i.bytes)) = some (some (.int .u8 0), 1, 1) := by kernel_rfl

/-- The cells of bytes. -/
def bv (bs : List Nat) : List Value := bs.map fun n : Nat => Value.int .u8 (n : Int)

theorem bv_length (bs : List Nat) : (bv bs).length = bs.length := by simp [bv]
theorem bv_append (a b : List Nat) : bv (a ++ b) = bv a ++ bv b := by simp [bv]
theorem bv_oneCell (bs : List Nat) : ∀ u ∈ bv bs, u.oneCell' = true := by
  intro u hu
  simp only [bv, List.mem_map] at hu
  obtain ⟨n, _, rfl⟩ := hu
  rfl
theorem bv_get (bs : List Nat) (j : Nat) (u : Value) (h : (bv bs)[j]? = some u) : j < bs.length ∧ u = .int .u8 ((bs.getD j 0 : Nat) : Int) := by
  simp only [bv, List.getElem?_map, Option.map_eq_some_iff] at h
  obtain ⟨n, hn, rfl⟩ := h
  obtain ⟨hj, rfl⟩ := List.getElem?_eq_some_iff.1 hn
  exact ⟨hj, by simp [List.getD, List.getElem?_eq_getElem hj]⟩

/-- All are bytes. -/
def Bys (bs : List Nat) : Prop := ∀ x ∈ bs, x < 256

theorem Bys.get {bs : List Nat} (h : Bys bs) (i : Nat) : bs.getD i 0 < 256 := by
  by_cases hi : i < bs.length
  · simp [List.getD, List.getElem?_eq_getElem hi]; exact h _ (List.getElem_mem hi)
  · simp [List.getD, List.getElem?_eq_none (by omega : bs.length ≤ i)]

/-- The cells of bytes lie at an address. -/
def At (w : World) (a : Option Addr) (bs : List Nat) : Prop :=
  bs = [] ∨ ∃ b off, a = some ⟨b, off, none⟩ ∧ ∀ i, i < bs.length → w.cell? ⟨b, off + i, none⟩ = some (.int .u8 ((bs.getD i 0 : Nat) : Int))

/-- A value reads as bytes. -/
def Rd (w : World) (v : Value) (bs : List Nat) : Prop :=
  Bys bs ∧ ∃ a cap, v = .slice a bs.length cap ∧ bs.length ≤ cap ∧ cap ≤ maxLen ∧ bs.length ≤ 281474976710656 ∧ (cap = 0 ∨ ∃ b off, a = some ⟨b, off, none⟩) ∧ At w a bs

theorem At.later {w w' : World} {a : Option Addr} {bs : List Nat} (h : At w a bs) (hb : Below w.heap.size w w') : At w' a bs := by
  rcases h with h | ⟨b, off, rfl, hc⟩
  · exact .inl h
  · refine .inr ⟨b, off, rfl, fun i hi => ?_⟩
    have := hc i hi
    rw [hb.cell (p := ⟨b, off + i, none⟩) (World.block_lt_of_cell? w _ this)]
    exact this

theorem At.add {w : World} {x : Addr} {bs : List Nat} (h : At w (some x) bs) : ∀ j u, (bv bs)[j]? = some u → w.cell? (x.add j) = some u := by
  intro j u hj
  obtain ⟨hjl, rfl⟩ := bv_get bs j u hj
  rcases h with rfl | ⟨b, off, h2, hc⟩
  · simp at hjl
  · cases h2
    have : (⟨b, off, none⟩ : Addr).add j = ⟨b, off + j, none⟩ := by unfold Addr.add; split <;> simp_all
    rw [this]
    exact hc j hjl

theorem Rd.later {w w' : World} {v : Value} {bs : List Nat} (h : Rd w v bs) (hb : Below w.heap.size w w') : Rd w' v bs := by
  obtain ⟨h1, a, cap, h2, h3, h4, h5, h6, h7⟩ := h
  exact ⟨h1, a, cap, h2, h3, h4, h5, h6, h7.later hb⟩

theorem Rd.nil (w : World) : Rd w (.slice none 0 0) [] := ⟨by intro x hx; simp at hx, none, 0, rfl, Nat.le_refl _, Nat.zero_le _, by simp, .inl rfl, .inl rfl⟩
theorem Rd.zero (w : World) (a : Option Addr) : Rd w (.slice a 0 0) [] := ⟨by intro x hx; simp at hx, a, 0, rfl, Nat.le_refl _, Nat.zero_le _, by simp, .inl rfl, .inl rfl⟩

/-- What is owned reads as bytes. -/
theorem Rd.of_owns {w : World} {base n : Nat} {v : Value} {bs : List Nat} (hn : n = bs.length) (h : w.ownsRow base 5 1 v n (bv bs)) (hb : Bys bs) (hlen : n ≤ 281474976710656) : Rd w v bs := by
  subst hn
  refine ⟨hb, ?_⟩
  rcases h.2 with ⟨rfl, hn⟩ | ⟨g, cap, cur, rfl, _, hg, hle, hm, hsz, htk⟩
  · exact ⟨none, 0, by simp [hn], by omega, Nat.zero_le _, hlen, .inl rfl, .inl (List.eq_nil_of_length_eq_zero hn)⟩
  · refine ⟨_, cap, rfl, hle, hm, hlen, .inr ⟨g, 0, rfl⟩, .inr ⟨g, 0, rfl, fun i hi => ?_⟩⟩
    have hx : (bv bs)[i]? = some (.int .u8 ((bs.getD i 0 : Nat) : Int)) := by
      simp [bv, List.getElem?_eq_getElem hi]
    rw [← htk] at hx
    have hx2 : cur[i]? = some (.int .u8 ((bs.getD i 0 : Nat) : Int)) := by
      rw [List.getElem?_take_of_lt (by omega)] at hx
      simpa using hx
    simp [World.cell?, hg, hx2]

/-- A value owns its bytes, from block B on. -/
def Own (w : World) (B : Nat) (v : Value) (m : Nat) (xs : List Nat) : Prop := m = xs.length ∧ w.ownsRow B 5 1 v m (bv xs)
theorem Own.len {w : World} {B : Nat} {v : Value} {m : Nat} {xs : List Nat} (h : Own w B v m xs) : m = xs.length := h.1
theorem Own.own {w : World} {B : Nat} {v : Value} {m : Nat} {xs : List Nat} (h : Own w B v m xs) : w.ownsRow B 5 1 v xs.length (bv xs) := by rw [← h.1]; exact h.2
theorem Own.rd {w : World} {B : Nat} {v : Value} {m : Nat} {xs : List Nat} (h : Own w B v m xs) (hb : Bys xs) (hl : m ≤ 281474976710656) : Rd w v xs := Rd.of_owns h.1 h.2 hb hl
theorem Own.mono {w : World} {B B' : Nat} {v : Value} {m : Nat} {xs : List Nat} (h : Own w B v m xs) (hB : B' ≤ B) : Own w B' v m xs := by
  refine ⟨h.1, h.2.1, ?_⟩
  rcases h.2.2 with h2 | ⟨g, cap, cur, h3, h4, h5⟩
  · exact .inl h2
  · exact .inr ⟨g, cap, cur, h3, Nat.le_trans hB h4, h5⟩
theorem Own.later {w w' : World} {B : Nat} {v : Value} {m : Nat} {xs : List Nat} (h : Own w B v m xs) (hb : Below w.heap.size w w') : Own w' B v m xs := by
  refine ⟨h.1, h.2.1, ?_⟩
  rcases h.2.2 with h2 | ⟨g, cap, cur, h3, h4, h5, h6⟩
  · exact .inl h2
  · exact .inr ⟨g, cap, cur, h3, h4, by rw [hb.block g (Array.getElem?_eq_some_iff.1 h5).1]; exact h5, h6⟩
theorem own_form {w : World} {B n : Nat} {v : Value} {xs : List Value} (h : w.ownsRow B 5 1 v n xs) : ∃ a c, v = .slice a n c := by
  rcases h.2 with ⟨rfl, rfl⟩ | ⟨g, cap, cur, rfl, _⟩
  · exact ⟨_, _, rfl⟩
  · exact ⟨_, _, rfl⟩
/-- One slice is handed back, in memory from B on. -/
theorem handed {P : Program} {f : Nat} {args : Array Value} {w : World} {B : Nat} {L : List Nat}
    (h : Calls P f args w fun e w' => ∃ s, e = .returned s ∧ w'.ownsRow B 5 1 s L.length (bv L) ∧ Below B w w') :
    Calls P f args w fun e w' => ∃ a m c, e = .returned (.slice a m c) ∧ Own w' B (.slice a m c) m L ∧ Below B w w' := by
  refine h.mono ?_
  rintro e w' ⟨s, rfl, ho, hb⟩
  obtain ⟨a, c, rfl⟩ := own_form ho
  exact ⟨a, L.length, c, rfl, ⟨rfl, ho⟩, hb⟩

/-- The string of bytes. -/
def str (bs : List Nat) : ByteArray := strOfNums (bs.map fun n : Nat => (n : Int))

theorem str_inj {a b : List Nat} (ha : Bys a) (hb : Bys b) (h : str a = str b) : a = b := by
  have h2 : (a.map fun n => UInt8.ofNat n) = (b.map fun n => UInt8.ofNat n) := by
    simpa [str, strOfNums, Function.comp_def] using h
  have key : ∀ (x : List Nat), Bys x → (x.map fun n => UInt8.ofNat n).map UInt8.toNat = x := by
    intro x hx
    rw [List.map_map]
    conv => rhs; rw [← List.map_id x]
    apply List.map_congr_left
    intro n hn
    have := hx n hn
    simp [Nat.mod_eq_of_lt this]
  rw [← key a ha, ← key b hb, h2]

theorem conv_none (w : World) (a : Option Addr) (c : Nat) : (convert 24 9 (.slice a 0 c)).run Try.prog w = .ok (.string (str [])) w := by
  rw [run_convert_bytes_string w _ _ _ a 0 c und_bytes und_byte und_string]
  unfold Conv.bytesToString
  cases a with
  | none => rfl
  | some x => rfl
theorem conv_str {w : World} {v : Value} {bs : List Nat} (h : Rd w v bs) : (convert 24 9 v).run Try.prog w = .ok (.string (str bs)) w := by
  obtain ⟨_, a, cap, rfl, hle, hm, _, hn, ha⟩ := h
  rcases ha with rfl | ⟨b, off, rfl, hc⟩
  · exact conv_none w a cap
  · refine run_convert_bytes_arg w _ _ und_bytes und_byte b off _ cap _ (by simp) (fun i hi => ?_) _ und_string
    rw [hc i hi]
    simp [List.getElem?_eq_getElem hi]

theorem beq_str {a b : List Nat} (ha : Bys a) (hb : Bys b) : ((str a).toList == (str b).toList) = decide (a = b) := by
  rw [ByteArray.toList_eq, ByteArray.toList_eq]
  by_cases h : a = b
  · subst h; simp
  · have h2 : str a ≠ str b := fun e => h (str_inj ha hb e)
    have h3 : (str a).data.toList ≠ (str b).data.toList := by
      intro e
      apply h2
      have e2 := Array.toList_inj.1 e
      cases hx : str a; cases hy : str b
      rw [hx, hy] at e2
      simp_all
    simp [h]
    simpa using h3

set_option maxRecDepth 100000 in
theorem num_any (n : Int) (w : World) : Calls Try.prog 14 #[.int .i64 n] w fun e w' => e = .returned (.int .i64 n) ∧ w' = w := by
  go_enter Try.func14, Try.ntmps14
  go_wp2
  go_ret
  exact ⟨rfl, rfl⟩

end Go.Proofs.Ytieehdhinponcaa

namespace Go.Proofs.Ytieehdhinponcaa
open Go.RowKit
set_option linter.unusedVariables false

/-- A number in groups of seven bits, the lowest first; at most f + 1 groups. -/
def uintF : Nat → Nat → List Nat
  | 0, v => [v]
  | f + 1, v => if 127 < v then (v % 128 + 128) :: uintF f (v / 128) else [v]
def uintL (v : Nat) : List Nat := uintF 9 v

theorem uintF_stop (f v : Nat) (h : v ≤ 127) : uintF f v = [v] := by
  cases f with
  | zero => rfl
  | succ f => simp [uintF]; omega
theorem uintF_go (f v : Nat) (h : 127 < v) : uintF (f + 1) v = (v % 128 + 128) :: uintF f (v / 128) := by simp [uintF, h]

theorem grp (v : Nat) (h : v < 18446744073709551616) : bits .or .u8 (bits .and .u64 (v : Int) 127 % 256) 128 = ((v % 128 + 128 : Nat) : Int) := by
  have h1 : bits .and .u64 (v : Int) 127 = ((v % 128 : Nat) : Int) := by
    have := u64_and_nat v 127 h (by omega)
    rw [nat_mask7] at this
    exact_mod_cast this
  rw [h1]
  have h2 : ((v % 128 : Nat) : Int) % 256 = ((v % 128 : Nat) : Int) := by omega
  rw [h2]
  have := u8_or_nat (v % 128) 128 (by omega) (by omega)
  rw [Nat.or_comm, nat_join 7 128 (v % 128) (by decide) (by omega)] at this
  rw [show ((128 : Int)) = ((128 : Nat) : Int) from rfl, this]
  omega

/-- What half a byte makes of the sum. -/
def tab : List Nat := [0, 274646895, 549293790, 820201905, 1098587580, 1361435347, 1640403810, 1905808397, 2197175160, 2460548119, 2722870694, 2987750089, 3280807620, 3553878443, 3811616794, 4084100981]
def half (r : Nat) : Nat := (r / 16) ^^^ tab.getD (r % 16) 0
def crcB (r c : Nat) : Nat := half (half (r ^^^ c))
def crcL (r : Nat) (bs : List Nat) : Nat := bs.foldl crcB r
def sumL (bs : List Nat) : Nat := 4294967295 - crcL 4294967295 bs

theorem tab_lt (i : Nat) : tab.getD i 0 < 4294967296 := by
  by_cases h : i < 16
  · have : ∀ j, j < 16 → tab.getD j 0 < 4294967296 := by decide
    exact this i h
  · have : tab.getD i 0 = 0 := by simp [List.getD, List.getElem?_eq_none (show tab.length ≤ i by simp [tab]; omega)]
    omega
theorem half_lt (r : Nat) (h : r < 4294967296) : half r < 4294967296 := by
  have h1 : r / 16 < 2 ^ 32 := by omega
  have h2 : tab.getD (r % 16) 0 < 2 ^ 32 := tab_lt _
  exact Nat.xor_lt_two_pow h1 h2
theorem xor_lt (r c : Nat) (h : r < 4294967296) (hc : c < 256) : r ^^^ c < 4294967296 := by
  have h1 : r < 2 ^ 32 := h
  have h2 : c < 2 ^ 32 := by omega
  exact Nat.xor_lt_two_pow h1 h2
theorem crcB_lt (r c : Nat) (h : r < 4294967296) (hc : c < 256) : crcB r c < 4294967296 := half_lt _ (half_lt _ (xor_lt r c h hc))
theorem crcL_lt (bs : List Nat) (hb : ∀ x ∈ bs, x < 256) : ∀ r, r < 4294967296 → crcL r bs < 4294967296 := by
  induction bs with
  | nil => intro r h; exact h
  | cons c bs ih => intro r h; exact ih (fun x hx => hb x (by simp [hx])) _ (crcB_lt r c h (hb c (by simp)))
theorem crcL_append (r : Nat) (a b : List Nat) : crcL r (a ++ b) = crcL (crcL r a) b := by simp [crcL, List.foldl_append]
theorem crcL_snoc (r : Nat) (a : List Nat) (c : Nat) : crcL r (a ++ [c]) = crcB (crcL r a) c := by simp [crcL, List.foldl_append]
theorem and15 (r : Nat) (h : r < 4294967296) : bits .and .u32 (r : Int) 15 = ((r % 16 : Nat) : Int) := by
  have := u32_and_nat r 15 h (by omega)
  rw [nat_mask4] at this
  exact this
theorem xor32 (a b : Nat) (ha : a < 4294967296) (hb : b < 4294967296) : bits .xor .u32 (a : Int) (b : Int) = ((a ^^^ b : Nat) : Int) := u32_xor_nat a b ha hb
theorem xor32d (a b : Nat) (ha : a < 4294967296) (hb : b < 4294967296) : bits .xor .u32 ((a : Int) / 16) (b : Int) = (((a / 16) ^^^ b : Nat) : Int) := by
  have := u32_xor_nat (a / 16) b (by omega) hb
  rw [show ((a : Int) / 16) = ((a / 16 : Nat) : Int) by omega]
  exact this
theorem nat_not32 (r : Nat) (h : r < 4294967296) : 4294967295 ^^^ r = 4294967295 - r := by
  apply Nat.eq_of_testBit_eq
  intro i
  rw [Nat.testBit_xor]
  have h1 : Nat.testBit 4294967295 i = decide (i < 32) := Nat.testBit_two_pow_sub_one 32 i
  have h2 : Nat.testBit (4294967295 - r) i = (decide (i < 32) && !Nat.testBit r i) := by
    have := Nat.testBit_two_pow_sub_succ (x := r) (n := 32) h i
    rw [show (4294967295 - r) = 2 ^ 32 - (r + 1) by omega]
    exact this
  rw [h1, h2]
  by_cases hi : i < 32
  · simp [hi]
  · have h3 : Nat.testBit r i = false := Nat.testBit_lt_two_pow (Nat.lt_of_lt_of_le h (Nat.pow_le_pow_right (n := 2) (i := 32) (j := i) (by omega) (by omega)))
    simp [hi, h3]
theorem not32 (r : Nat) (h : r < 4294967296) : bits .xor .u32 IntKind.u32.max (r : Int) = ((4294967295 - r : Nat) : Int) := by
  rw [show IntKind.u32.max = ((4294967295 : Nat) : Int) by decide, u32_xor_nat _ r (by omega) h, nat_not32 r h]
/-- What four bytes say, the lowest first. -/
def rdle (a b c d : Nat) : Nat := a + 256 * b + 65536 * c + 16777216 * d
theorem rdle_lt (a b c d : Nat) (ha : a < 256) (hb : b < 256) (hc : c < 256) (hd : d < 256) : rdle a b c d < 4294967296 := by unfold rdle; omega
theorem or32 (a b : Nat) (ha : a < 4294967296) (hb : b < 4294967296) (x y : Int) (hx : x = (a : Int)) (hy : y = (b : Int)) : bits .or .u32 x y = ((a ||| b : Nat) : Int) := by
  subst hx; subst hy; exact u32_or_nat a b ha hb
theorem ori64 (a b : Nat) (ha : a < 4611686018427387904) (hb : b < 4611686018427387904) (x y : Int) (hx : x = (a : Int)) (hy : y = (b : Int)) : bits .or .i64 x y = ((a ||| b : Nat) : Int) := by
  subst hx; subst hy
  have hz : a ||| b < 2 ^ 62 := Nat.or_lt_two_pow (by omega) (by omega)
  show IntKind.i64.wrap ((BitVec.ofInt 64 (a : Int) ||| BitVec.ofInt 64 (b : Int)).toNat : Int) = _
  rw [BitVec.toNat_or, ofInt_u64 a (by omega), ofInt_u64 b (by omega)]
  simp only [IntKind.wrap, IntKind.bits, IntKind.signed]
  simp
  omega
theorem chain_le (a b c d : Nat) (ha : a < 256) (hb : b < 256) (hc : c < 256) (hd : d < 256) : ((a ||| b * 256) ||| c * 65536) ||| d * 16777216 = rdle a b c d := by
  have h1 : a ||| b * 256 = a + b * 256 := by rw [Nat.or_comm, nat_join 8 (b * 256) a (by omega) (by omega)]; omega
  have h2 : (a + b * 256) ||| c * 65536 = a + b * 256 + c * 65536 := by rw [Nat.or_comm, nat_join 16 (c * 65536) _ (by omega) (by omega)]; omega
  have h3 : (a + b * 256 + c * 65536) ||| d * 16777216 = a + b * 256 + c * 65536 + d * 16777216 := by rw [Nat.or_comm, nat_join 24 (d * 16777216) _ (by omega) (by omega)]; omega
  rw [h1, h2, h3]; unfold rdle; omega
theorem chain_be (a b c d : Nat) (ha : a < 256) (hb : b < 256) (hc : c < 256) (hd : d < 256) : ((d * 16777216 ||| c * 65536) ||| b * 256) ||| a = rdle a b c d := by
  have h1 : d * 16777216 ||| c * 65536 = d * 16777216 + c * 65536 := nat_join 24 _ _ (by omega) (by omega)
  have h2 : (d * 16777216 + c * 65536) ||| b * 256 = d * 16777216 + c * 65536 + b * 256 := nat_join 16 _ _ (by omega) (by omega)
  have h3 : (d * 16777216 + c * 65536 + b * 256) ||| a = d * 16777216 + c * 65536 + b * 256 + a := nat_join 8 _ _ (by omega) (by omega)
  rw [h1, h2, h3]; unfold rdle; omega
theorem chain32 (a b c d : Nat) (ha : a < 256) (hb : b < 256) (hc : c < 256) (hd : d < 256) :
    bits .or .u32 (bits .or .u32 (bits .or .u32 (a : Int) ((b : Int) * 256)) ((c : Int) * 65536)) ((d : Int) * 16777216) = ((rdle a b c d : Nat) : Int) := by
  have e1 := or32 a (b * 256) (by omega) (by omega) (a : Int) ((b : Int) * 256) rfl (by omega)
  have l1 : a ||| b * 256 < 4294967296 := Nat.or_lt_two_pow (n := 32) (by omega) (by omega)
  have e2 := or32 (a ||| b * 256) (c * 65536) l1 (by omega) _ ((c : Int) * 65536) e1 (by omega)
  have l2 : (a ||| b * 256) ||| c * 65536 < 4294967296 := Nat.or_lt_two_pow (n := 32) l1 (by omega)
  have e3 := or32 _ (d * 16777216) l2 (by omega) _ ((d : Int) * 16777216) e2 (by omega)
  rw [e3, chain_le a b c d ha hb hc hd]
theorem chaini64 (a b c d : Nat) (ha : a < 256) (hb : b < 256) (hc : c < 256) (hd : d < 256) :
    bits .or .i64 (bits .or .i64 (bits .or .i64 ((d : Int) * 16777216) ((c : Int) * 65536)) ((b : Int) * 256)) (a : Int) = ((rdle a b c d : Nat) : Int) := by
  have e1 := ori64 (d * 16777216) (c * 65536) (by omega) (by omega) ((d : Int) * 16777216) ((c : Int) * 65536) (by omega) (by omega)
  have l1 : d * 16777216 ||| c * 65536 < 4611686018427387904 := Nat.or_lt_two_pow (n := 62) (by omega) (by omega)
  have e2 := ori64 (d * 16777216 ||| c * 65536) (b * 256) l1 (by omega) _ ((b : Int) * 256) e1 (by omega)
  have l2 : (d * 16777216 ||| c * 65536) ||| b * 256 < 4611686018427387904 := Nat.or_lt_two_pow (n := 62) l1 (by omega)
  have e3 := ori64 _ a l2 (by omega) _ (a : Int) e2 rfl
  rw [e3, chain_be a b c d ha hb hc hd]
theorem take_succ_getD (bs : List Nat) (k : Nat) (h : k < bs.length) : bs.take (k + 1) = bs.take k ++ [bs.getD k 0] := by
  rw [List.take_succ_eq_append_getElem h]; simp [List.getD, List.getElem?_eq_getElem h]

end Go.Proofs.Ytieehdhinponcaa

namespace Go.Proofs.Ytieehdhinponcaa
open Go.RowKit
set_option linter.unusedVariables false

/-- A value reads as lists of bytes. -/
def RdP (w : World) (v : Value) (ps : List (List Nat)) : Prop :=
  ps.length ≤ 281474976710656 ∧ ∃ a cap, v = .slice a ps.length cap ∧ (ps = [] ∨ ∃ b off, a = some ⟨b, off, none⟩ ∧ ∀ i, i < ps.length → ∃ u, w.cell? ⟨b, off + i, none⟩ = some u ∧ Rd w u (ps.getD i []))

theorem RdP.later {w w' : World} {v : Value} {ps : List (List Nat)} (h : RdP w v ps) (hb : Below w.heap.size w w') : RdP w' v ps := by
  obtain ⟨h0, a, cap, h1, h2⟩ := h
  refine ⟨h0, a, cap, h1, ?_⟩
  rcases h2 with h2 | ⟨b, off, rfl, hc⟩
  · exact .inl h2
  · refine .inr ⟨b, off, rfl, fun i hi => ?_⟩
    obtain ⟨u, hu, hr⟩ := hc i hi
    refine ⟨u, ?_, hr.later hb⟩
    rw [hb.cell (p := ⟨b, off + i, none⟩) (World.block_lt_of_cell? w _ hu)]
    exact hu

theorem flat_snoc (ps : List (List Nat)) (k : Nat) (h : k < ps.length) : (ps.take (k + 1)).flatten = (ps.take k).flatten ++ ps.getD k [] := by
  rw [List.take_succ_eq_append_getElem h, List.flatten_append]; simp [List.getD, List.getElem?_eq_getElem h]

end Go.Proofs.Ytieehdhinponcaa

namespace Go.Proofs.Ytieehdhinponcaa
open Go.RowKit
set_option linter.unusedVariables false

/-- A shape as a value. -/
def shV (p m : Nat) : Value := .agg #[.int .u8 (p : Int), .int .u32 (m : Int)]

set_option maxRecDepth 100000 in
set_option maxHeartbeats 400000 in
theorem size_any (p m : Nat) (hm : m < 4294967296) (w : World) :
    Calls Try.prog 47 #[shV p m] w fun e w' => e = .returned (.int .i64 ((6 + m / 8 : Nat) : Int)) ∧ Below w.heap.size w w' := by
  unfold shV
  go_enter Try.func47, Try.ntmps47
  go_wp2
  go_ret
  exact ⟨congrArg (fun z : Int => Ending.returned (Value.int .i64 z)) (show (6 + (m : Int) / 8) = ((6 + m / 8 : Nat) : Int) by omega), (Below.refl _ _).alloc (Nat.le_refl _) _⟩

theorem mask_is (i : Nat) : (128 / 2 ^ (i % 8) : Int) = ((maskN i : Nat) : Int) := by
  have h : i % 8 < 8 := Nat.mod_lt _ (by decide)
  unfold maskN
  have key : ∀ r, r < 8 → (128 / 2 ^ r : Int) = ((128 >>> r : Nat) : Int) := by decide
  exact key _ h
set_option maxRecDepth 100000 in
set_option maxHeartbeats 400000 in
theorem mask_any (i : Nat) (hi : i < 4294967296) (w : World) :
    Calls Try.prog 37 #[.int .i64 (i : Int)] w fun e w' => e = .returned (.int .u8 ((maskN i : Nat) : Int)) ∧ w' = w := by
  have hm := mask_is i
  go_enter Try.func37, Try.ntmps37
  go_wp2
  go_ret
  exact ⟨by first | rfl | exact congrArg (fun z : Int => Ending.returned (Value.int .u8 z)) hm, rfl⟩

def mayN (p m : Nat) : Bool := decide (1 ≤ p ∧ p ≤ 14 ∧ m % 8 = 0 ∧ 64 ≤ m ∧ m ≤ 20971520)
set_option maxRecDepth 100000 in
set_option maxHeartbeats 400000 in
theorem may_any (p m : Nat) (hp : p < 256) (hm : m < 4294967296) (w : World) :
    Calls Try.prog 49 #[shV p m] w fun e w' => e = .returned (.bool (mayN p m)) ∧ Below w.heap.size w w' := by
  unfold shV
  go_enter Try.func49, Try.ntmps49
  go_wp2
  all_goals go_ret
  all_goals refine ⟨congrArg (fun b : Bool => Ending.returned (Value.bool b)) (?_ : _ = mayN p m), (Below.refl _ _).alloc (Nat.le_refl _) _⟩
  all_goals (unfold mayN; first | (symm; rw [decide_eq_false_iff_not]; omega) | (rw [decide_eq_decide]; omega) | skip)

end Go.Proofs.Ytieehdhinponcaa
