import Derived.Test.YtchebhafabhabaaGreatDoorK10
namespace Go.Proofs.YtchebhafabhabaaGreatDoor
open Go.RowKit
set_option linter.unusedVariables false

def T (s : Nat) : Nat := (s / 2) ^^^ (if s % 2 = 1 then 2197175160 else 0)
def Tn : Nat → Nat → Nat
  | 0, s => s
  | n + 1, s => Tn n (T s)

theorem xor_div2 (a b : Nat) : (a ^^^ b) / 2 = (a / 2) ^^^ (b / 2) := by
  have := Nat.shiftRight_xor_distrib (a := a) (b := b) (i := 1)
  simpa [Nat.shiftRight_eq_div_pow] using this
theorem xor_mod2 (a b : Nat) : (a ^^^ b) % 2 = (a % 2) ^^^ (b % 2) := by
  have h := Nat.xor_mod_two_pow (a := a) (b := b) (n := 1)
  simpa using h
theorem T_xor (a b : Nat) : T (a ^^^ b) = T a ^^^ T b := by
  unfold T
  rw [xor_div2, xor_mod2]
  have ha : a % 2 = 0 ∨ a % 2 = 1 := by omega
  have hb : b % 2 = 0 ∨ b % 2 = 1 := by omega
  rcases ha with ha | ha <;> rcases hb with hb | hb <;> simp [ha, hb]
  · rw [Nat.xor_assoc]
  · rw [Nat.xor_assoc, Nat.xor_assoc, Nat.xor_comm (b / 2)]
  · rw [Nat.xor_comm (b / 2) 2197175160, ← Nat.xor_assoc, Nat.xor_assoc (a / 2), Nat.xor_self, Nat.xor_zero]
theorem Tn_xor (n a b : Nat) : Tn n (a ^^^ b) = Tn n a ^^^ Tn n b := by
  induction n generalizing a b with
  | zero => rfl
  | succ n ih => simp only [Tn]; rw [T_xor, ih]
theorem Tn_add (m n s : Nat) : Tn (m + n) s = Tn m (Tn n s) := by
  induction n generalizing s with
  | zero => rfl
  | succ n ih => rw [Nat.add_succ]; simp only [Tn]; exact ih (T s)
theorem T_two (q : Nat) : T (2 * q) = q := by unfold T; rw [if_neg (by omega), Nat.xor_zero]; omega
theorem half_eq (r : Nat) : half r = Tn 4 r := by
  have hr : r = (16 * (r / 16)) ^^^ (r % 16) := by
    have h1 := nat_join 4 (16 * (r / 16)) (r % 16) (by omega) (by omega)
    have h2 : (16 * (r / 16)) ^^^ (r % 16) = (16 * (r / 16)) ||| (r % 16) := by
      apply Nat.eq_of_testBit_eq
      intro i
      rw [Nat.testBit_xor, Nat.testBit_or]
      by_cases hi : i < 4
      · have : (16 * (r / 16)).testBit i = false := by
          rw [show 16 * (r / 16) = 2 ^ 4 * (r / 16) by omega, Nat.testBit_two_pow_mul]
          simp; omega
        simp [this]
      · have : (r % 16).testBit i = false := Nat.testBit_lt_two_pow (Nat.lt_of_lt_of_le (show r % 16 < 2 ^ 4 by omega) (Nat.pow_le_pow_right (by omega) (by omega)))
        simp [this]
    rw [h2, h1]; omega
  have h16 : Tn 4 (16 * (r / 16)) = r / 16 := by
    simp only [Tn]
    rw [show 16 * (r / 16) = 2 * (2 * (2 * (2 * (r / 16)))) by omega, T_two, T_two, T_two, T_two]
  have ht : ∀ i, i < 16 → Tn 4 i = tab.getD i 0 := by decide
  conv => rhs; rw [hr, Tn_xor, h16, ht (r % 16) (by omega)]
  rfl
theorem crcB_eq (r c : Nat) : crcB r c = Tn 8 (r ^^^ c) := by
  unfold crcB
  rw [half_eq, half_eq, ← Tn_add]
def xorL (a b : List Nat) : List Nat := List.zipWith (· ^^^ ·) a b
def errF (e : List Nat) : Nat := crcL 0 e
def flip (bs : List Nat) (k : Nat) : List Nat := bs.set (k / 8) (bs.getD (k / 8) 0 ^^^ 2 ^ (k % 8))
def par : Nat → Nat → Bool
  | 0, _ => false
  | k + 1, s => (s % 2 == 1) ^^ par k (s / 2)
def mapp : List Nat → Nat → Nat
  | [], _ => 0
  | a :: A, s => (if s % 2 = 1 then a else 0) ^^^ mapp A (s / 2)
def Rep (A : List Nat) (n : Nat) : Prop := A.length = 32 ∧ ∀ i, i < 32 → A.getD i 0 = Tn n (2 ^ i)
def msq (A : List Nat) : List Nat := A.map (mapp A)
def powv : Nat → List Nat → Nat → Nat
  | 0, _, v => v
  | k + 1, A, v => powv k (msq A) (mapp A v)
def A0 : List Nat := (List.range 32).map fun i => T (2 ^ i)
def chk : Nat → Nat → Bool
  | 0, lo => decide (lo < 2) || decide (2147483647 % lo ≠ 0)
  | k + 1, lo => chk k lo && chk k (lo + 2 ^ k)
end Go.Proofs.YtchebhafabhabaaGreatDoor

namespace Go.Proofs.YtchebhafabhabaaGreatDoor
open Go.RowKit
set_option linter.unusedVariables false

def flips (bs : List Nat) (l : List Nat) : List Nat := l.foldl flip bs
theorem le4_sum (s : Nat) (h : s < 4294967296) : rdle (s % 256) (s / 256 % 256) (s / 65536 % 256) (s / 16777216) = s := by unfold rdle; omega
end Go.Proofs.YtchebhafabhabaaGreatDoor

namespace Go.Proofs.YtchebhafabhabaaGreatDoor
open Go.RowKit Go.Shelf
set_option linter.unusedVariables false

theorem getD_mid (A B C : List Nat) (k : Nat) (hk : k < B.length) : (A ++ (B ++ C)).getD (A.length + k) 0 = B.getD k 0 := by
  rw [List.getD_eq_getElem?_getD, List.getD_eq_getElem?_getD, List.getElem?_append_right (by omega), Nat.add_sub_cancel_left, List.getElem?_append_left hk]
theorem blockL_len (E P : List Nat) (n r : Nat) : (blockL E P n r).length = E.length + P.length + 9 := by
  simp [blockL, bodyL, be4, le4]; omega
theorem block_cnt (E P : List Nat) (n r : Nat) (hn : n < 4294967296) : cntOf (blockL E P n r) = n ∧ rstOf (blockL E P n r) = r := by
  have e : blockL E P n r = (E ++ P) ++ (be4 n ++ ([r] ++ le4 (sumL (bodyL E P n r)))) := by simp [blockL, bodyL]
  have e2 : blockL E P n r = (E ++ P ++ be4 n) ++ ([r] ++ le4 (sumL (bodyL E P n r))) := by simp [blockL, bodyL]
  have f : (blockL E P n r).length - 9 = (E ++ P).length := by rw [blockL_len]; simp
  have g : ∀ k, k < 4 → (blockL E P n r).getD ((blockL E P n r).length - 9 + k) 0 = (be4 n).getD k 0 := fun k hk => by
    rw [f, e]
    exact getD_mid _ _ _ k (by simpa [be4] using hk)
  refine ⟨?_, ?_⟩
  · unfold cntOf
    have g0 := g 0 (by omega)
    rw [Nat.add_zero] at g0
    rw [g0, g 1 (by omega), g 2 (by omega), g 3 (by omega)]
    simp only [be4, List.getD_cons_zero, List.getD_cons_succ]
    unfold rdle
    omega
  · unfold rstOf
    have h4 : (blockL E P n r).length - 9 + 4 = (E ++ P ++ be4 n).length + 0 := by rw [f]; simp [be4]; omega
    rw [h4, e2]
    exact getD_mid _ _ _ 0 (by simp)
theorem block_sum (E P : List Nat) (n r : Nat) : (blockL E P n r).take ((blockL E P n r).length - 4) = bodyL E P n r ∧ sum4 (blockL E P n r) = sumL (bodyL E P n r) := by
  have f : (blockL E P n r).length - 4 = (bodyL E P n r).length := by simp [blockL, le4]
  have g : ∀ k, k < 4 → (blockL E P n r).getD ((blockL E P n r).length - 4 + k) 0 = (le4 (sumL (bodyL E P n r))).getD k 0 := fun k hk => by
    rw [f]
    have := getD_mid (bodyL E P n r) (le4 (sumL (bodyL E P n r))) [] k (by simpa [le4] using hk)
    rw [List.append_nil] at this
    exact this
  refine ⟨?_, ?_⟩
  · rw [f]; unfold blockL; rw [List.take_left]
  · unfold sum4
    have g0 := g 0 (by omega)
    rw [Nat.add_zero] at g0
    rw [g0, g 1 (by omega), g 2 (by omega), g 3 (by omega)]
    have := le4_sum (sumL (bodyL E P n r)) (sumL_lt _)
    simpa only [le4, List.getD_cons_zero, List.getD_cons_succ] using this
structure Blad (r : Nat) (l : List (List Nat × List Nat)) (E P : List Nat) : Prop where
  r1 : 1 ≤ r
  r16 : r ≤ 16
  es : E = (foldB r Bs.zero l).es
  ps : P = (foldB r Bs.zero l).ps
  ok : ∀ kv ∈ l, okIt kv.1 kv.2
  up : Up [] l
  some_ : l ≠ []
  size : E.length + P.length + 9 ≤ 131072
theorem foldB_few (r : Nat) : ∀ (l : List (List Nat × List Nat)) (s : Bs), s.n ≤ s.es.length → (foldB r s l).n ≤ (foldB r s l).es.length
  | [], s, h => h
  | kv :: t, s, h => by
    simp only [foldB]
    refine foldB_few r t _ ?_
    simp only [addB, esOf, List.length_append, recL]
    have := (uintL_len (shOf r s kv.1)).1
    omega
theorem Blad.few {r : Nat} {l : List (List Nat × List Nat)} {E P : List Nat} (h : Blad r l E P) : l.length ≤ E.length := by
  have := foldB_few r l Bs.zero (Nat.le_refl _)
  rw [foldB_n, ← h.es] at this
  simpa [Bs.zero] using this
theorem zero_ps {r : Nat} (hr : 1 ≤ r) : Bs.zero.ps.length = (Bs.zero.n + r - 1) / r * 4 := by
  have := (ceil_now (n := 0) hr).1 (by simp)
  simp only [Bs.zero]
  rw [this]
  simp
theorem Blad.psl {r : Nat} {l : List (List Nat × List Nat)} {E P : List Nat} (h : Blad r l E P) : P.length = (l.length + r - 1) / r * 4 := by
  have := ps_fold h.r1 l Bs.zero (zero_ps h.r1)
  rw [foldB_n, ← h.ps] at this
  simpa [Bs.zero] using this
theorem Blad.opens {r : Nat} {l : List (List Nat × List Nat)} {E P : List Nat} (h : Blad r l E P) : opE (blockL E P l.length r) = 0 ∧ cntOf (blockL E P l.length r) = l.length ∧ rstOf (blockL E P l.length r) = r ∧ entsOf (blockL E P l.length r) = E ∧ placesOf5 (blockL E P l.length r) = P := by
  have hs := h.size
  have hf := h.few
  have hp := h.psl
  have hl := blockL_len E P l.length r
  obtain ⟨c1, c2⟩ := block_cnt E P l.length r (by omega)
  obtain ⟨s1, s2⟩ := block_sum E P l.length r
  have hn : nrsOf (blockL E P l.length r) = (l.length + r - 1) / r := by unfold nrsOf; rw [c1, c2]
  have hpl : plsOf (blockL E P l.length r) = E.length := by unfold plsOf; rw [hn, hl]; omega
  have e : blockL E P l.length r = E ++ (P ++ (be4 l.length ++ ([r] ++ le4 (sumL (bodyL E P l.length r))))) := by simp [blockL, bodyL]
  have e3 : blockL E P l.length r = (E ++ P) ++ (be4 l.length ++ ([r] ++ le4 (sumL (bodyL E P l.length r)))) := by simp [blockL, bodyL]
  have hE : entsOf (blockL E P l.length r) = E := by unfold entsOf; rw [hpl, e, List.take_left]
  have hP : placesOf5 (blockL E P l.length r) = P := by
    unfold placesOf5
    rw [hpl, hl, e3, show E.length + P.length + 9 - 9 = (E ++ P).length by simp, List.take_left, List.drop_left]
  refine ⟨?_, c1, c2, hE, hP⟩
  have hl0 : l.length ≠ 0 := fun k => h.some_ (List.eq_nil_of_length_eq_zero k)
  unfold opE
  rw [if_neg (by omega), if_neg (by omega), if_neg (by rw [s1, s2]; exact fun k => k rfl), if_pos]
  refine ⟨⟨by rw [c1]; exact hl0, by rw [c2]; exact ⟨h.r1, h.r16⟩, by rw [hn, hl]; omega⟩, ?_⟩
  rw [c1, c2, hE, hP, h.es, h.ps]
  exact sound_lay h.r1 l h.ok h.up (by rw [← h.es]; omega)
theorem laid_of {r : Nat} {l : List EntD} (h1 : 1 ≤ r) (h16 : r ≤ 16) (h : (bldS r Bs.zero l).1 = 0) (hl : l ≠ []) : Blad r (kvL l) (bldS r Bs.zero l).2.es (bldS r Bs.zero l).2.ps := by
  obtain ⟨f1, f2, f3, f4⟩ := bldS_fold r l Bs.zero h
  rw [f1]
  refine ⟨h1, h16, rfl, rfl, ?_, f3, ?_, ?_⟩
  · intro kv hkv
    obtain ⟨e, he, rfl⟩ := List.mem_map.1 hkv
    exact ok_of_check (f2 e he)
  · intro k
    exact hl (List.map_eq_nil_iff.1 k)
  · rcases f4 with rfl | f4
    · exact absurd rfl hl
    · exact f4
theorem kvL_len (l : List EntD) : (kvL l).length = l.length := by simp [kvL]
end Go.Proofs.YtchebhafabhabaaGreatDoor

namespace Go.Proofs.YtchebhafabhabaaGreatDoor
open Go.RowKit Go.Shelf
set_option linter.unusedVariables false

theorem seg_app (E : List Nat) {a b c : Nat} (h1 : a ≤ b) (h2 : b ≤ c) : (E.take b).drop a ++ (E.take c).drop b = (E.take c).drop a := by
  rw [List.drop_take, List.drop_take, List.drop_take, show c - a = (b - a) + (c - b) by omega, List.take_add, List.drop_drop, show a + (b - a) = b by omega]
theorem seg_len (E : List Nat) (a n : Nat) : (E.drop a).take n = (E.take (a + n)).drop a := by
  rw [List.drop_take, show a + n - a = n by omega]
theorem record_back {E : List Nat} (hb : Bys E) {p sh : Nat} {r v : Nat × Nat} (hp : p ≤ E.length) (h : recordOf E p = some (sh, r, v)) :
    recL sh ((E.drop r.1).take r.2) ((E.drop v.1).take v.2) = (E.take (v.1 + v.2)).drop p ∧ p < v.1 + v.2 ∧ v.1 + v.2 ≤ E.length := by
  unfold recordOf at h
  split at h
  · rename_i hc
    have e0 : uintR E p = ((uintR E p).1, (uintR E p).2.1, 0) := Prod.ext rfl (Prod.ext rfl hc.1)
    have o0 := uintR_ok e0 hp
    have b0 := uint_back hb e0
    split at h
    · cases h
    · rename_i r' hr
      split at h
      · cases h
      · rename_i v' hv
        simp only [Option.some.injEq, Prod.mk.injEq] at h
        obtain ⟨rfl, rfl, rfl⟩ := h
        have k1 := pieceOf_ok (s := r'.1) (m := r'.2) hr o0.2.1
        have k2 := pieceOf_ok (s := v'.1) (m := v'.2) hv k1.2
        have f1 : ∀ {k : Nat} {z : Nat × Nat}, pieceOf E k = some z → uintR E k = (z.2, z.1, 0) := by
          intro k z hz
          unfold pieceOf at hz
          split at hz
          · rename_i hq
            simp only [Option.some.injEq] at hz
            rw [← hz]
            exact Prod.ext rfl (Prod.ext rfl hq.1)
          · cases hz
        have b1 := uint_back hb (f1 hr)
        have b2 := uint_back hb (f1 hv)
        have l1 : ((E.drop r'.1).take r'.2).length = r'.2 := by rw [List.length_take, List.length_drop]; omega
        have l2 : ((E.drop v'.1).take v'.2).length = v'.2 := by rw [List.length_take, List.length_drop]; omega
        refine ⟨?_, by omega, k2.2⟩
        unfold recL
        rw [l1, l2, b0, b1, b2, seg_len E r'.1, seg_len E v'.1, seg_app E (show r'.1 + r'.2 ≤ v'.1 by omega) (show v'.1 ≤ v'.1 + v'.2 by omega), seg_app E (show r'.1 ≤ r'.1 + r'.2 by omega) (show r'.1 + r'.2 ≤ v'.1 + v'.2 by omega), seg_app E (show (uintR E p).2.1 ≤ r'.1 by omega) (show r'.1 ≤ v'.1 + v'.2 by omega), seg_app E (show p ≤ (uintR E p).2.1 by omega) (show (uintR E p).2.1 ≤ v'.1 + v'.2 by omega)]
  · cases h
theorem getD_lt {P : List Nat} (hb : Bys P) (i : Nat) : P.getD i 0 < 256 := by
  rw [List.getD_eq_getElem?_getD]
  cases h : P[i]? with
  | none => simp
  | some x => simpa using hb x (List.mem_of_getElem? h)
theorem word_back {P : List Nat} (hb : Bys P) {i : Nat} (hi : i * 4 + 4 ≤ P.length) : be4 (wordAt P i) = (P.take (i * 4 + 4)).drop (i * 4) := by
  unfold wordAt
  rw [be4_rdle _ _ _ _ (getD_lt hb _) (getD_lt hb _) (getD_lt hb _) (getD_lt hb _), ← seg_len, four (by rw [List.length_drop]; omega)]
  simp [List.getD_eq_getElem?_getD, List.getElem?_drop]
theorem sound_inv {r : Nat} {E P : List Nat} (hr : 1 ≤ r) (hbE : Bys E) (hbP : Bys P) : ∀ (f : Nat) (s : Bs) (p : Nat) (st : List Nat), s.es = E.take s.es.length → s.es.length ≤ E.length → s.ps = P.take s.ps.length → s.ps.length = (s.n + r - 1) / r * 4 → (∀ j, j < s.n + f → j / r * 4 + 4 ≤ P.length) →
    walkS E (SdA r P) f s.n s.es.length s.la s.la = (p, true, st) → ∃ l, l.length = f ∧ (∀ kv ∈ l, okIt kv.1 kv.2) ∧ Up s.la l ∧ (foldB r s l).es = E.take p ∧ (foldB r s l).es.length = p ∧ (foldB r s l).ps = P.take (foldB r s l).ps.length
  | 0, s, p, st, he, hel, hp, hpl, hN, h => by
    simp only [walkS, Prod.mk.injEq] at h
    obtain ⟨rfl, -, -⟩ := h
    exact ⟨[], rfl, (fun kv hk => by cases hk), trivial, he, rfl, hp⟩
  | f + 1, s, p, st, he, hel, hp, hpl, hN, h => by
    simp only [walkS] at h
    split at h
    · simp at h
    · rename_i sh rr v hrec
      obtain ⟨b1, b2, b3⟩ := record_back hbE hel hrec
      split at h
      · simp at h
      · rename_i hsh
        split at h
        · rename_i hfit
          simp only [SdA] at hfit h
          obtain ⟨hord, hok, hf1, hf2⟩ := (fitB_iff ..).1 hfit
          simp only at hord hok hf1 hf2
          obtain ⟨x, hx⟩ : ∃ x, x = (E.drop rr.1).take rr.2 := ⟨_, rfl⟩
          obtain ⟨val, hval⟩ : ∃ val, val = (E.drop v.1).take v.2 := ⟨_, rfl⟩
          simp only [← hx, ← hval] at b1 hord hok hf2 h
          obtain ⟨key, hkey⟩ : ∃ key, key = s.la.take sh ++ x := ⟨_, rfl⟩
          simp only [← hkey] at hord hok hf2 h
          have hlt : (s.la.take sh).length = sh := by rw [List.length_take]; omega
          have hso : shOf r s key = sh := by
            unfold shOf
            split
            · rename_i h0; exact ((hf1 h0).1).symm
            · rename_i h0; exact (hf2 h0).symm
          have hdk : key.drop sh = x := by rw [hkey, List.drop_append_of_le_length (by omega), List.drop_of_length_le (by omega)]; rfl
          have hes : (addB r s key val).es = E.take (v.1 + v.2) := by
            simp only [addB, esOf]
            rw [hso, hdk, b1]
            have := seg_app E (a := 0) (b := s.es.length) (c := v.1 + v.2) (by omega) (by omega)
            simp only [List.drop_zero] at this
            rw [← he] at this
            exact this
          have hesl : (addB r s key val).es.length = v.1 + v.2 := by rw [hes, List.length_take]; omega
          have hps := ps_next (s := s) key val hr hpl
          have hpp : (addB r s key val).ps = P.take (addB r s key val).ps.length := by
            simp only [addB, psOf]
            split
            · rename_i h0
              have hq := (ceil_now (n := s.n) hr).1 h0
              rw [hq] at hpl
              have hw := (hf1 h0).2
              have hwb := word_back hbP (hN s.n (by omega))
              rw [hw]
              have hle := hN s.n (by omega)
              have : (s.ps ++ be4 (wordAt P (s.n / r))).length = s.n / r * 4 + 4 := by rw [List.length_append, hpl]; simp [be4]
              rw [this, hwb]
              have hs := seg_app P (a := 0) (b := s.n / r * 4) (c := s.n / r * 4 + 4) (by omega) (by omega)
              simp only [List.drop_zero] at hs
              rw [hpl] at hp
              rw [← hp] at hs
              exact hs
            · exact hp
          have ih := sound_inv hr hbE hbP f (addB r s key val) p st (by rw [hesl]; exact hes) (by omega) hpp hps (fun j hj => hN j (by simp only [addB] at hj; omega))
          rw [hesl] at ih
          have hn : (addB r s key val).n = s.n + 1 := rfl
          have hl : (addB r s key val).la = key := rfl
          rw [hn, hl] at ih
          obtain ⟨l, q1, q2, q3, q4, q5, q6⟩ := ih h
          refine ⟨(key, val) :: l, by simp [q1], ?_, ⟨hord, q3⟩, q4, q5, q6⟩
          intro kv hkv
          rcases List.mem_cons.1 hkv with rfl | hkv
          · exact hok
          · exact q2 kv hkv
        · simp at h
theorem sound_blad {r n : Nat} {E P : List Nat} (hr : 1 ≤ r) (h16 : r ≤ 16) (hbE : Bys E) (hbP : Bys P) (hn : n ≠ 0) (hPl : P.length = (n + r - 1) / r * 4) (hPN : ∀ k, k < n → k / r * 4 + 4 ≤ P.length) (hsz : E.length + P.length + 9 ≤ 131072) (h : soundB r n E P = true) : ∃ l, l.length = n ∧ Blad r l E P := by
  unfold soundB at h
  obtain ⟨res, hres⟩ : ∃ res, res = walkS E (SdA r P) n 0 0 [] [] := ⟨_, rfl⟩
  rw [← hres] at h
  obtain ⟨p, all, st⟩ := res
  simp only [Bool.and_eq_true, decide_eq_true_eq] at h
  obtain ⟨rfl, rfl⟩ := h
  obtain ⟨l, q1, q2, q3, q4, q5, q6⟩ := sound_inv (r := r) (E := E) (P := P) hr hbE hbP n Bs.zero E.length st (by simp [Bs.zero]) (Nat.zero_le _) (by simp [Bs.zero]) (zero_ps hr) (fun j hj => hPN j (by simpa [Bs.zero] using hj)) hres.symm
  refine ⟨l, q1, hr, h16, ?_, ?_, q2, q3, ?_, hsz⟩
  · rw [q4, List.take_length]
  · have := ps_fold hr l Bs.zero (zero_ps hr)
    rw [foldB_n] at this
    have hl : (foldB r Bs.zero l).ps.length = P.length := by rw [this, hPl, q1]; simp [Bs.zero]
    rw [hl, List.take_length] at q6
    exact q6.symm
  · intro h0
    rw [h0] at q1
    exact hn q1.symm
theorem opE_blad {bs : List Nat} (hb : Bys bs) (h : opE bs = 0) : ∃ l, Blad (rstOf bs) l (entsOf bs) (placesOf5 bs) ∧ l.length = cntOf bs ∧ bs = blockL (entsOf bs) (placesOf5 bs) l.length (rstOf bs) := by
  unfold opE at h
  split at h
  · cases h
  · rename_i h1
    split at h
    · cases h
    · rename_i h9
      split at h
      · cases h
      · rename_i hsum
        split at h
        · rename_i hs
          obtain ⟨hsp, hso⟩ := hs
          obtain ⟨p1, p2⟩ := spOk_ps (by omega) hsp
          obtain ⟨c0, ⟨r1, r16⟩, hfit⟩ := hsp
          have hLn : ∃ m, bs.length = m + 9 := ⟨bs.length - 9, by omega⟩
          obtain ⟨m, hm⟩ := hLn
          have hpls : plsOf bs ≤ m := by unfold plsOf; omega
          have hbE : Bys (entsOf bs) := fun x hx => hb x (List.mem_of_mem_take hx)
          have hbP : Bys (placesOf5 bs) := fun x hx => hb x (List.mem_of_mem_take (List.mem_of_mem_drop hx))
          have hEl : (entsOf bs).length = plsOf bs := by unfold entsOf; rw [List.length_take]; omega
          have hPl : (placesOf5 bs).length = m - plsOf bs := by unfold placesOf5; rw [List.length_drop, List.length_take, hm]; omega
          obtain ⟨l, q1, q2⟩ := sound_blad r1 r16 hbE hbP c0 (by rw [p1]; unfold nrsOf; omega) p2 (by omega) hso
          refine ⟨l, q2, q1, ?_⟩
          have hEP : entsOf bs ++ placesOf5 bs = bs.take m := by
            have := seg_app bs (a := 0) (b := plsOf bs) (c := m) (by omega) hpls
            simp only [List.drop_zero] at this
            unfold entsOf placesOf5
            rw [hm, show m + 9 - 9 = m by omega]
            exact this
          have hct : be4 (cntOf bs) = (bs.take (m + 4)).drop m := by
            unfold cntOf
            rw [hm, show m + 9 - 9 = m by omega, be4_rdle _ _ _ _ (getD_lt hb _) (getD_lt hb _) (getD_lt hb _) (getD_lt hb _), ← seg_len, four (by rw [List.length_drop]; omega)]
            simp [List.getD_eq_getElem?_getD, List.getElem?_drop]
          have hrt : [rstOf bs] = (bs.take (m + 4 + 1)).drop (m + 4) := by
            unfold rstOf
            rw [hm, show m + 9 - 9 + 4 = m + 4 by omega, ← seg_len, List.drop_eq_getElem_cons (show m + 4 < bs.length by omega)]
            simp only [List.getD_eq_getElem?_getD, List.getElem?_eq_getElem (show m + 4 < bs.length by omega), Option.getD_some, List.take_succ_cons, List.take_zero]
          have hbody : bodyL (entsOf bs) (placesOf5 bs) (cntOf bs) (rstOf bs) = bs.take (m + 5) := by
            unfold bodyL
            have s1 := seg_app bs (a := 0) (b := m) (c := m + 4) (by omega) (by omega)
            have s2 := seg_app bs (a := 0) (b := m + 4) (c := m + 4 + 1) (by omega) (by omega)
            simp only [List.drop_zero] at s1 s2
            rw [hEP, hct, s1, hrt, s2]
          have hle : le4 (sum4 bs) = bs.drop (m + 5) := by
            unfold sum4
            rw [hm, show m + 9 - 4 = m + 5 by omega, le4_rdle _ _ _ _ (getD_lt hb _) (getD_lt hb _) (getD_lt hb _) (getD_lt hb _)]
            have hd : (bs.drop (m + 5)).length = 4 := by rw [List.length_drop]; omega
            have hf := four (l := bs.drop (m + 5)) (by omega)
            rw [List.take_of_length_le (by omega)] at hf
            rw [hf]
            simp [List.getD_eq_getElem?_getD, List.getElem?_drop]
          have hsm : sum4 bs = sumL (bs.take (m + 5)) := by
            have := Decidable.not_not.1 hsum
            rw [hm, show m + 9 - 4 = m + 5 by omega] at this
            exact this
          unfold blockL
          rw [q1, hbody, ← hsm, hle, List.take_append_drop]
        · cases h
end Go.Proofs.YtchebhafabhabaaGreatDoor

namespace Go.Proofs.YtchebhafabhabaaGreatDoor
open Go.RowKit
set_option linter.unusedVariables false

def adB (a : Option Addr) (k : Nat) : Prop := ∃ ad, a = some ad ∧ ad.block = k
def EntD.adr (D : EntD) (k : Nat) : Prop := ∃ v, (v = D.vr ∨ v = D.vq ∨ v = D.vv) ∧ ∃ ad n c, v = .slice (some ad) n c ∧ ad.block = k
theorem Rd.fbV {w w' : World} {X : Nat → Prop} {v : Value} {bs : List Nat} (h : Rd w v bs) (f : Fb w w' X) (hx : ∀ ad n c, v = .slice (some ad) n c → ¬ X ad.block) : Rd w' v bs := by
  obtain ⟨h1, a, cap, rfl, h3, h4, h5, h6, h7⟩ := h
  refine ⟨h1, a, cap, rfl, h3, h4, h5, h6, ?_⟩
  rcases h7 with h7 | ⟨b, off, rfl, hc⟩
  · exact .inl h7
  · refine .inr ⟨b, off, rfl, fun i hi => ?_⟩
    have hb := World.block_lt_of_cell? _ _ (hc i hi)
    have e := f.block b hb (hx _ _ _ rfl)
    rw [← hc i hi]
    unfold World.cell?
    rw [e]
theorem EntD.Ok.fbV {w w' : World} {X : Nat → Prop} {D : EntD} (h : EntD.Ok w D) (f : Fb w w' X) (hx : ∀ k, D.adr k → ¬ X k) : EntD.Ok w' D := ⟨h.1.fbV f (fun ad n c e => hx _ ⟨_, .inl rfl, ad, n, c, e, rfl⟩), h.2.1.fbV f (fun ad n c e => hx _ ⟨_, .inr (.inl rfl), ad, n, c, e, rfl⟩), h.2.2.fbV f (fun ad n c e => hx _ ⟨_, .inr (.inr rfl), ad, n, c, e, rfl⟩)⟩
theorem RdL5.fbV {w w' : World} {X : Nat → Prop} {a : Option Addr} {c : Nat} {l : List EntD} (h : RdL5 w a c l) (f : Fb w w' X) (ha : ∀ k, adB a k → ¬ X k) (hd : ∀ D ∈ l, ∀ k, D.adr k → ¬ X k) : RdL5 w' a c l := by
  refine ⟨h.cap, ?_, fun x hx => (h.ok x hx).fbV f (hd x hx), h.nn⟩
  rcases h.at_ with h1 | ⟨b, off, rfl, hc⟩
  · exact .inl h1
  · refine .inr ⟨b, off, rfl, fun i x hi j u hj => ?_⟩
    have h0 := hc i x hi j u hj
    have hb := World.block_lt_of_cell? _ _ h0
    have e := f.block b hb (ha b ⟨_, rfl, rfl⟩)
    rw [← h0]
    unfold World.cell?
    rw [e]
end Go.Proofs.YtchebhafabhabaaGreatDoor

namespace Go.Proofs.YtchebhafabhabaaGreatDoor
open Go.RowKit Go.Shelf
set_option linter.unusedVariables false

structure AtI (gi ge i B0 : Nat) (st : Option (List Nat × List Nat) × EntD) (w : World) : Prop where
  i_ : Cell1B w gi (.int .i64 (i : Int)) 3
  e : EBox w ge st.2
  o1 : Own w B0 st.2.vr st.2.row.length st.2.row
  o2 : Own w B0 st.2.vq st.2.qual.length st.2.qual
  o3 : Own w B0 st.2.vv st.2.val.length st.2.val
  by_ : Bys st.2.row ∧ Bys st.2.qual ∧ Bys st.2.val
  len : st.2.row.length ≤ 281474976710656 ∧ st.2.qual.length ≤ 281474976710656 ∧ st.2.val.length ≤ 281474976710656
  fact : ∀ kv, st.1 = some kv → (IsKey kv.1 → keyL st.2 = kv.1 ∧ st.2.val = kv.2) ∧ (checkS st.2 = 0 ↔ okIt kv.1 kv.2)
  lo : gi < B0 ∧ ge < B0 ∧ gi ≠ ge
  B : B0 ≤ w.heap.size
def AtO (ge : Nat) (st : Option (List Nat × List Nat) × EntD) (k : Nat) : Prop := k = ge ∨ st.2.vr.ownBlock = some k ∨ st.2.vq.ownBlock = some k ∨ st.2.vv.ownBlock = some k
def AtA (i : Nat) (st : Option (List Nat × List Nat)) (it : It) : Bool × Option (List Nat × List Nat) := if it.number < i then (true, st) else (false, some (it.key, it.val))
theorem AtI.stays {gi ge i B0 : Nat} {st : Option (List Nat × List Nat) × EntD} {w w' : World} {O' : Nat → Prop} (h : AtI gi ge i B0 st w) (f : Fb w w' O') (hk : ∀ k, k < w.heap.size → AtO ge st k → ¬ O' k) (hL : ∀ k, O' k → B0 ≤ k) : AtI gi ge i B0 st w' := by
  have hl := h.lo
  have hB := h.B
  have hge : ge < w.heap.size := (Array.getElem?_eq_some_iff.1 h.e).1
  exact ⟨h.i_.fb f (fun k => by have := hL _ k; omega), h.e.fb f (hk _ hge (.inl rfl)), h.o1.fb f (fun k ho => hk k (h.o1.2.lt _ ho).2 (.inr (.inl ho))), h.o2.fb f (fun k ho => hk k (h.o2.2.lt _ ho).2 (.inr (.inr (.inl ho)))), h.o3.fb f (fun k ho => hk k (h.o3.2.lt _ ho).2 (.inr (.inr (.inr ho)))), h.by_, h.len, h.fact, h.lo, Nat.le_trans h.B f.size⟩
theorem Fb.of_apart {w w' : World} {g : Nat} {O : Nat → Prop} (h : Apart g w w') (hg : O g) : Fb w w' O := ⟨h.os, h.tape, h.output, h.size, fun k hk ho => h.block k hk (fun z => ho (by rw [z]; exact hg))⟩
set_option maxRecDepth 100000 in
set_option maxHeartbeats 4000000 in
theorem at1_asks {gi ge i N B0 : Nat} (hi : i < 4294967296) (hN : N < 4294967296)
    (st : Option (List Nat × List Nat) × EntD) (w : World) (it : It) (ak av : Option Addr) (kc vc kn vn : Nat) (hI : AtI gi ge i B0 st w) (hnu : it.number < N) (hkn : kn = it.key.length) (hvn : vn = it.val.length) (hk : Rd w (.slice ak kn kc) it.key) (hv : Rd w (.slice av vn vc) it.val) (hkl : kn ≤ 131072) (hvl : vn ≤ 131072)
    (hst : ∀ w', Fb w w' (AtO ge st) → Rd w' (.slice ak kn kc) it.key ∧ Rd w' (.slice av vn vc) it.val) :
    Calls Tryz.prog 77 (#[.agg #[.int .i64 (it.number : Int), .int .i64 (it.place : Int), .int .i64 (it.shared : Int), .slice ak kn kc, .slice av vn vc]] ++ #[.pointer (some ⟨gi, 0, none⟩), .pointer (some ⟨ge, 0, none⟩)]) w fun e w' => e = .returned (.bool (AtA i st.1 it).1) ∧ ∃ mm, AtI gi ge i B0 ((AtA i st.1 it).2, mm) w' ∧ Fb w w' (AtO ge st) ∧ ∀ k, AtO ge ((AtA i st.1 it).2, mm) k → AtO ge st k ∨ w.heap.size ≤ k := by
  obtain ⟨nu, pl, sh, K, V⟩ := it
  obtain ⟨s0, D⟩ := st
  simp only at *
  have A1 := (Below.refl w.heap.size w).alloc (Nat.le_refl _) (.cells #[.int .i64 nu, .int .i64 pl, .int .i64 sh, .slice ak kn kc, .slice av vn vc] 116)
  have ib := IBox.new w nu pl sh (.slice ak kn kc) (.slice av vn vc)
  obtain ⟨X, hX⟩ : ∃ X, X = w.alloc (.cells #[.int .i64 nu, .int .i64 pl, .int .i64 sh, .slice ak kn kc, .slice av vn vc] 116) := ⟨_, rfl⟩
  rw [← hX] at A1 ib
  have HX := Lib.hid hX
  have fX : Fb w X (AtO ge (s0, D)) := Fb.of_below A1
  have hIX : AtI gi ge i B0 (s0, D) X := hI.stays (Fb.of_below (O := fun _ => False) A1) (fun _ _ _ h => h) (fun _ h => h.elim)
  have HEn := Lib.hid (entry_any (nu : Int) (pl : Int) (sh : Int) (hk.later A1) (hv.later A1) hkl hvl)
  have HIX := Lib.hid hIX
  have HFX := Lib.hid fX
  have HA1 := Lib.hid A1
  have hnl : nu < 4294967296 := by omega
  obtain ⟨c0, c1, c2, c3, c4⟩ := ib.cells
  have d0 := hIX.i_.cell
  clear hX A1 ib fX hIX hI hk hv hst hnu hkn hvn
  by_cases hlt : nu < i
  · have e1 : AtA i s0 ⟨nu, pl, sh, K, V⟩ = (true, s0) := by unfold AtA; rw [if_pos hlt]
    have hlt2 : (nu : Int) < (i : Int) := by omega
    have HEnd : Hid (∃ mm, AtI gi ge i B0 (s0, mm) X ∧ Fb w X (AtO ge (s0, D)) ∧ ∀ k, AtO ge (s0, mm) k → AtO ge (s0, D) k ∨ w.heap.size ≤ k) := ⟨D, HIX.out, HFX.out, fun k h => .inl h⟩
    rw [e1]
    clear e1 HEn
    go_enter Tryz.func77, Tryz.ntmps77
    go_upto_region 1 with fail
    rw [← HX.out]
    clear HX
    go_wp2
    go_ret
    exact ⟨rfl, HEnd.out⟩
  · have e1 : AtA i s0 ⟨nu, pl, sh, K, V⟩ = (false, some (K, V)) := by unfold AtA; rw [if_neg hlt]
    have hlt2 : ¬ (nu : Int) < (i : Int) := by omega
    rw [e1]
    clear e1
    go_enter Tryz.func77, Tryz.ntmps77
    go_upto_region 1 with fail
    rw [← HX.out]
    clear HX
    go_wp2_with fail
    refine Calls.mono HEn.out ?_
    rintro z X1 ⟨e, rfl, hok, hchk, hkey, b1, y1, y2, y3⟩
    obtain ⟨ve, fam, vq, ts, seq, kind, vv, row, qual, val⟩ := e
    obtain ⟨k1, k2, k3⟩ := hok
    simp only at k1 k2 k3 y1 y2 y3
    obtain ⟨ar, mr, cr, rfl⟩ := rd_slice k1
    obtain ⟨aq, mq, cq, rfl⟩ := rd_slice k2
    obtain ⟨aw, mw, cw, rfl⟩ := rd_slice k3
    have hI1 : AtI gi ge i B0 (s0, D) X1 := HIX.out.stays (Fb.of_below (O := fun _ => False) b1) (fun _ _ _ h => h) (fun _ h => h.elim)
    have hBw : B0 ≤ X.heap.size := HIX.out.B
    have ap := filled_apart X1 ge ⟨.slice ar mr cr, fam, .slice aq mq cq, ts, seq, kind, .slice aw mw cw, row, qual, val⟩
    have bx := filled_box hI1.e ⟨.slice ar mr cr, fam, .slice aq mq cq, ts, seq, kind, .slice aw mw cw, row, qual, val⟩
    have fY : Fb w (filled X1 ge ⟨.slice ar mr cr, fam, .slice aq mq cq, ts, seq, kind, .slice aw mw cw, row, qual, val⟩) (AtO ge (s0, D)) := (HFX.out.trans (Fb.of_below b1 |>.mono (fun _ _ h => h) : Fb X X1 (AtO ge (s0, D)))).trans (Fb.of_apart ap (.inl rfl))
    have hXw : w.heap.size ≤ X.heap.size := HA1.out.size
    have HEnd : Hid (∃ mm, AtI gi ge i B0 (some (K, V), mm) (filled X1 ge ⟨.slice ar mr cr, fam, .slice aq mq cq, ts, seq, kind, .slice aw mw cw, row, qual, val⟩) ∧ Fb w (filled X1 ge ⟨.slice ar mr cr, fam, .slice aq mq cq, ts, seq, kind, .slice aw mw cw, row, qual, val⟩) (AtO ge (s0, D)) ∧ ∀ k, AtO ge (some (K, V), mm) k → AtO ge (s0, D) k ∨ w.heap.size ≤ k) := by
      refine ⟨⟨.slice ar mr cr, fam, .slice aq mq cq, ts, seq, kind, .slice aw mw cw, row, qual, val⟩, ⟨?_, bx, ((y1.mono hBw).apartE hI1.e ap), ((y2.mono hBw).apartE hI1.e ap), ((y3.mono hBw).apartE hI1.e ap), ⟨k1.1, k2.1, k3.1⟩, ⟨?_, ?_, ?_⟩, ?_, hI1.lo, Nat.le_trans hI1.B ap.size⟩, fY, ?_⟩
      · exact hI1.i_.fb (Fb.of_apart (O := fun k => k = ge) ap rfl) hI1.lo.2.2
      · have := rd_lens k1; simp only; omega
      · have := rd_lens k2; simp only; omega
      · have := rd_lens k3; simp only; omega
      · intro kv h
        cases h
        exact ⟨hkey, hchk⟩
      · rintro k (h | h | h | h)
        · exact .inl (.inl h)
        · exact .inr (Nat.le_trans hXw (y1.2.lt _ h).1)
        · exact .inr (Nat.le_trans hXw (y2.2.lt _ h).1)
        · exact .inr (Nat.le_trans hXw (y3.2.lt _ h).1)
    obtain ⟨g0, g1, g2, g3, g4, g5, g6⟩ := hI1.e.cells7
    obtain ⟨gf0, gf1, gf2, gf3, gf4, gf5, gf6⟩ := EBox.fz7b hI1.e
    simp only [filled] at HEnd
    clear k1 k2 k3 y1 y2 y3 hI1 ap bx fY b1 hkey hchk HEn HIX HFX c0 c1 c2 c3 c4 d0
    simp only [EntD.cells]
    go_wp2
    go_ret
    exact ⟨rfl, HEnd.out⟩
end Go.Proofs.YtchebhafabhabaaGreatDoor

namespace Go.Proofs.YtchebhafabhabaaGreatDoor
open Go.RowKit Go.Shelf
set_option linter.unusedVariables false

theorem piece_bytes {E : List Nat} {k s m : Nat} (h : pieceOf E k = some (s, m)) (hk : k ≤ E.length) : bytesR E k E.length = ((E.drop s).take m, s + m, 0) := by
  have ok := pieceOf_ok h hk
  unfold pieceOf at h
  split at h
  · rename_i hc
    simp only [Option.some.injEq, Prod.mk.injEq] at h
    obtain ⟨h1, h2⟩ := h
    unfold bytesR
    rw [if_neg (by omega), if_neg (by omega), if_neg (by omega), h1, h2]
  · cases h
theorem bytes_piece {E L : List Nat} {k P : Nat} (h : bytesR E k E.length = (L, P, 0)) (hk : k ≤ E.length) : ∃ s m, pieceOf E k = some (s, m) ∧ L = (E.drop s).take m ∧ P = s + m := by
  unfold bytesR at h
  split at h
  · rename_i h0
    simp only [Prod.mk.injEq] at h
    exact absurd h.2.2 h0
  · split at h
    · simp at h
    · split at h
      · simp at h
      · rename_i h0 h1 h2
        simp only [Prod.mk.injEq, and_true] at h
        refine ⟨(uintR E k).2.1, (uintR E k).1, ?_, h.1.symm, h.2.symm⟩
        unfold pieceOf
        rw [if_pos ⟨by omega, by omega⟩]
def RfR (E : List Nat) (p : Nat) (last key val : List Nat) (p' : Nat) : Prop :=
  ∃ sh r v, recordOf E p = some (sh, r, v) ∧ sh ≤ last.length ∧ key = last.take sh ++ (E.drop r.1).take r.2 ∧ val = (E.drop v.1).take v.2 ∧ p' = v.1 + v.2 ∧ IsKey key
theorem rfr_of {E last L1 L2 : List Nat} {p V P p2 p3 : Nat} (hp : p ≤ E.length) (hla : last.length ≤ E.length) (h0 : uintR E p = (V, P, 0)) (hV : V ≤ last.length) (h1 : bytesR E P E.length = (L1, p2, 0)) (h2 : bytesR E p2 E.length = (L2, p3, 0)) (hk : IsKey (last.take V ++ L1)) : RfR E p last (last.take V ++ L1) L2 p3 := by
  have o0 := uintR_ok h0 hp
  obtain ⟨s1, m1, e1, rfl, rfl⟩ := bytes_piece h1 o0.2.1
  have o1 := pieceOf_ok e1 o0.2.1
  obtain ⟨s2, m2, e2, rfl, rfl⟩ := bytes_piece h2 o1.2
  refine ⟨V, (s1, m1), (s2, m2), ?_, hV, rfl, rfl, rfl, hk⟩
  unfold recordOf
  rw [h0]
  simp only
  rw [if_pos ⟨trivial, by omega⟩, e1]
  simp only
  rw [e2]
theorem rfr_un {E last key val : List Nat} {p p' : Nat} (hp : p ≤ E.length) (h : RfR E p last key val p') : ∃ V P L1 p2, uintR E p = (V, P, 0) ∧ V ≤ last.length ∧ bytesR E P E.length = (L1, p2, 0) ∧ bytesR E p2 E.length = (val, p', 0) ∧ key = last.take V ++ L1 ∧ IsKey key := by
  obtain ⟨sh, r, v, h1, h2, h3, h4, h5, h6⟩ := h
  unfold recordOf at h1
  split at h1
  · rename_i hc
    have e0 : uintR E p = ((uintR E p).1, (uintR E p).2.1, 0) := Prod.ext rfl (Prod.ext rfl hc.1)
    have o0 := uintR_ok e0 hp
    split at h1
    · cases h1
    · rename_i r' hr
      split at h1
      · cases h1
      · rename_i v' hv
        simp only [Option.some.injEq, Prod.mk.injEq] at h1
        obtain ⟨rfl, rfl, rfl⟩ := h1
        have k1 := pieceOf_ok (s := r'.1) (m := r'.2) hr o0.2.1
        have k2 := piece_bytes (s := r'.1) (m := r'.2) hr o0.2.1
        have k3 := piece_bytes (s := v'.1) (m := v'.2) hv k1.2
        exact ⟨_, _, _, _, e0, h2, k2, by rw [k3, h4, h5], h3, h6⟩
  · cases h1
theorem rfr_le {E last key val : List Nat} {p p' : Nat} (hp : p ≤ E.length) (hla : last.length ≤ p) (h : RfR E p last key val p') : p < p' ∧ p' ≤ E.length ∧ key.length ≤ p' := by
  obtain ⟨sh, r, v, h1, h2, h3, h4, h5, h6⟩ := h
  have := recordOf_ok h1 hp
  refine ⟨by omega, by omega, ?_⟩
  rw [h3, List.length_append, List.length_take, List.length_take, List.length_drop]
  omega
theorem rfr_one {E last key val key' val' : List Nat} {p p' q : Nat} (h : RfR E p last key val p') (k : RfR E p last key' val' q) : key = key' ∧ val = val' ∧ p' = q := by
  obtain ⟨sh, r, v, h1, h2, h3, h4, h5, h6⟩ := h
  obtain ⟨sh', r', v', k1, k2, k3, k4, k5, k6⟩ := k
  rw [h1] at k1
  simp only [Option.some.injEq, Prod.mk.injEq] at k1
  obtain ⟨rfl, rfl, rfl⟩ := k1
  exact ⟨h3.trans k3.symm, h4.trans k4.symm, h5.trans k5.symm⟩
theorem bytesR_bys {E L : List Nat} {k m P : Nat} (hb : Bys E) (h : bytesR E k m = (L, P, 0)) : Bys L := by
  unfold bytesR at h
  split at h
  · rename_i h0
    simp only [Prod.mk.injEq] at h
    exact absurd h.2.2 h0
  · split at h
    · simp at h
    · split at h
      · simp at h
      · simp only [Prod.mk.injEq] at h
        intro x hx
        rw [← h.1] at hx
        exact hb x (List.mem_of_mem_drop (List.mem_of_mem_take hx))
structure OwnD (w : World) (B : Nat) (D : EntD) : Prop where
  r : Own w B D.vr D.row.length D.row
  q : Own w B D.vq D.qual.length D.qual
  v : Own w B D.vv D.val.length D.val
theorem OwnD.later {w w' : World} {B : Nat} {D : EntD} (h : OwnD w B D) (b : Below w.heap.size w w') : OwnD w' B D := ⟨h.r.later b, h.q.later b, h.v.later b⟩
theorem OwnD.mono {w : World} {B B' : Nat} {D : EntD} (h : OwnD w B D) (k : B' ≤ B) : OwnD w B' D := ⟨h.r.mono k, h.q.mono k, h.v.mono k⟩
def REp (w : World) (E : List Nat) (p : Nat) (last : List Nat) (x : Ending) (w' : World) : Prop :=
  Below w.heap.size w w' ∧ (((∀ key val p', ¬ RfR E p last key val p') ∧ x = .returned (.tuple #[.agg #[.slice none 0 0, .int .i64 0, .slice none 0 0, .int .i64 0, .int .i64 0, .int .i64 0, .slice none 0 0], .slice none 0 0, .int .i64 0, .bool false])) ∨
    ∃ (D : EntD) (p' : Nat) (a : Option Addr) (m c : Nat), RfR E p last (keyL D) D.val p' ∧ (checkS D = 0 ↔ okIt (keyL D) D.val) ∧ x = .returned (.tuple #[.agg D.cells, .slice a m c, .int .i64 (p' : Int), .bool true]) ∧ Own w' w.heap.size (.slice a m c) m (keyL D) ∧ Bys (keyL D) ∧ EntD.Ok w' D ∧ OwnD w' w.heap.size D)
end Go.Proofs.YtchebhafabhabaaGreatDoor

namespace Go.Proofs.YtchebhafabhabaaGreatDoor
open Go.RowKit Go.Shelf
set_option linter.unusedVariables false

theorem at1_asker {gi ge i N B0 : Nat} (hi : i < 4294967296) (hN : N < 4294967296) :
    Asker (Option (List Nat × List Nat)) EntD 77 #[.pointer (some ⟨gi, 0, none⟩), .pointer (some ⟨ge, 0, none⟩)] N B0 (AtI gi ge i B0) (AtO ge) (AtA i) where
  enters := enters_of Tryz.func77 (by kernel_rfl) rfl
  lt := fun st w k h ho => by
    rcases ho with rfl | ho | ho | ho
    · exact (Array.getElem?_eq_some_iff.1 h.e).1
    · exact (h.o1.2.lt _ ho).2
    · exact (h.o2.2.lt _ ho).2
    · exact (h.o3.2.lt _ ho).2
  stays := fun st w w' O' h f hk hL => h.stays f hk hL
  asks := at1_asks hi hN
theorem ask_at (i p : Nat) (r : Nat) : ∀ (l : List (List Nat × List Nat)) (s : Bs) (kv : List Nat × List Nat), s.n ≤ i → l[i - s.n]? = some kv → (askB (AtA i) p (itemsB r s l) none).2.2 = some kv
  | [], s, kv, h, hk => by simp at hk
  | x :: t, s, kv, h, hk => by
    simp only [itemsB, askB, AtA]
    by_cases hlt : s.n < i
    · simp only [hlt, if_true]
      refine ask_at i p r t (addB r s x.1 x.2) kv (by simp only [addB]; omega) ?_
      rw [show i - s.n = (i - (addB r s x.1 x.2).n) + 1 by simp only [addB]; omega] at hk
      simpa using hk
    · simp only [hlt, if_false]
      have : i - s.n = 0 := by omega
      rw [this] at hk
      simp at hk
      rw [← hk]
      rfl
theorem walk_from {S : Type} (A : S → It → Bool × S) {r : Nat} {l : List (List Nat × List Nat)} {E P : List Nat} (h : Blad r l E P) (q : Nat) (hq : q * r < l.length) (st : S) :
    wordAt P q ≤ E.length ∧ walkS E A (l.length - q * r) (q * r) (wordAt P q) [] st = askB A E.length (itemsB r (foldB r Bs.zero (l.take (q * r))) (l.drop (q * r))) st := by
  have hr := h.r1
  obtain ⟨s, hs⟩ : ∃ s, foldB r Bs.zero (l.take (q * r)) = s := ⟨_, rfl⟩
  have hsn : s.n = q * r := by rw [← hs, foldB_n]; simp [Bs.zero]; omega
  have hE : E = (foldB r s (l.drop (q * r))).es := by rw [h.es, ← hs, ← foldB_app, List.take_append_drop]
  have hP : P = (foldB r s (l.drop (q * r))).ps := by rw [h.ps, ← hs, ← foldB_app, List.take_append_drop]
  have hps : s.ps.length = (s.n + r - 1) / r * 4 := by rw [← hs]; exact ps_fold hr _ _ (zero_ps hr)
  have h0 : s.n % r = 0 := by rw [hsn]; exact Nat.mul_mod_left _ _
  have hla : s.la.length ≤ s.es.length := by
    rw [← hs]
    have : ∀ (l : List (List Nat × List Nat)) (s : Bs), s.la.length ≤ s.es.length → (foldB r s l).la.length ≤ (foldB r s l).es.length := by
      intro l
      induction l with
      | nil => intro s h; exact h
      | cons kv t ih => intro s h; simp only [foldB]; exact ih _ (com_la r s kv.1 kv.2 h).2.2
    exact this _ _ (Nat.le_refl _)
  obtain ⟨m, hm⟩ := foldB_es r (l.drop (q * r)) s
  have hel : s.es.length ≤ E.length := by rw [hE, hm]; simp
  have hsz := h.size
  obtain ⟨x, t, hxt⟩ : ∃ x t, l.drop (q * r) = x :: t := by
    cases hd : l.drop (q * r) with
    | nil => have := List.drop_eq_nil_iff.1 hd; omega
    | cons x t => exact ⟨x, t, rfl⟩
  have hw : wordAt P q = s.es.length := by
    rw [hP, hxt]
    have := word_lay hr x t s hps h0 (by omega)
    rw [hsn, Nat.mul_div_cancel _ (by omega)] at this
    exact this
  refine ⟨by omega, ?_⟩
  rw [hw, hs]
  have := walk_lay A r (l.drop (q * r)) s [] st E hE (.inl h0) hla (by omega)
  rw [List.length_drop, hsn] at this
  exact this
def AtP (w : World) (l : List (List Nat × List Nat)) (i : Int) (x : Ending) (w' : World) : Prop :=
  Below w.heap.size w w' ∧ ((¬ (0 ≤ i ∧ i < l.length) ∧ x = .returned (.tuple #[.agg #[.slice none 0 0, .int .i64 0, .slice none 0 0, .int .i64 0, .int .i64 0, .int .i64 0, .slice none 0 0], .int .i64 1])) ∨
   (0 ≤ i ∧ ∃ kv e, l[i.toNat]? = some kv ∧ x = .returned (.tuple #[.agg (EntD.cells e), .int .i64 0]) ∧ EntD.Ok w' e ∧ checkS e = 0 ∧ keyL e = kv.1 ∧ e.val = kv.2 ∧ Own w' w.heap.size e.vr e.row.length e.row ∧ Own w' w.heap.size e.vq e.qual.length e.qual ∧ Own w' w.heap.size e.vv e.val.length e.val))
theorem two_at (W : World) (i : Int) : ∃ X, X = (W.alloc (.cells #[.int .i64 i] 3)).alloc (.cells #[.slice none 0 0, .int .i64 0, .slice none 0 0, .int .i64 0, .int .i64 0, .int .i64 0, .slice none 0 0] 40) ∧ Below W.heap.size W X ∧ X.heap.size = W.heap.size + 2 ∧ Cell1B X W.heap.size (.int .i64 i) 3 ∧ EBox X (W.heap.size + 1) ⟨.slice none 0 0, 0, .slice none 0 0, 0, 0, 0, .slice none 0 0, [], [], []⟩ := by
  have A1 := (Below.refl W.heap.size W).alloc (Nat.le_refl _) (.cells #[.int .i64 i] 3)
  refine ⟨_, rfl, A1.alloc A1.size _, by simp, ?_, ?_⟩
  · exact Cell1B.fb (O := fun _ => False) (heap_alloc_new W _) (Fb.of_below ((Below.refl _ _).alloc (Nat.le_refl _) _)) id
  · have := EBox.new (W.alloc (.cells #[.int .i64 i] 3)) ⟨.slice none 0 0, 0, .slice none 0 0, 0, 0, 0, .slice none 0 0, [], [], []⟩
    simpa [EntD.cells] using this
set_option maxRecDepth 100000 in
set_option maxHeartbeats 4000000 in
theorem at_out {W : World} {g r n b ne ce np cp B : Nat} {E P : List Nat} {l : List (List Nat × List Nat)} (hL : Blad r l E P) (hk : Lk W B g r l.length b ne ce E P np cp) (i : Int) (hi : ¬ (0 ≤ i ∧ i < l.length)) :
    Calls Tryz.prog 34 #[.pointer (some ⟨g, 0, none⟩), .int .i64 i] W fun x w' => AtP W l i x w' := by
  obtain ⟨X, hX, bX, sX, cX, eX⟩ := two_at W i
  obtain ⟨q0, q1, q2, q3⟩ := (hk.box.later bX).cells
  have d0 := cX.cell
  obtain ⟨g0, g1, g2, g3, g4, g5, g6⟩ := eX.cells7
  obtain ⟨gf0, gf1, gf2, gf3, gf4, gf5, gf6⟩ := EBox.fz7b eX
  simp only at g0 g1 g2 g3 g4 g5 g6
  have HX := Lib.hid hX
  obtain ⟨N, hN⟩ : ∃ N, N = l.length := ⟨_, rfl⟩
  rw [← hN] at q1 hi
  have HEnd : Hid (∀ Y, Below W.heap.size W Y → AtP W l i (.returned (.tuple #[.agg #[.slice none 0 0, .int .i64 0, .slice none 0 0, .int .i64 0, .int .i64 0, .int .i64 0, .slice none 0 0], .int .i64 1])) Y) := fun Y hY => ⟨hY, .inl ⟨by rw [← hN]; exact hi, rfl⟩⟩
  clear hk hX cX hL hN g0 g1 g2 g3 g4 g5 g6 gf0 gf1 gf2 gf3 gf4 gf5 gf6
  by_cases h0 : i < 0
  · go_enter Tryz.func34, Tryz.ntmps34
    go_upto_region 1 with fail
    rw [← HX.out]
    clear HX
    go_quiet (fail)
    have bY := below_drewN (Below.refl X.heap.size X) nq
    have eY := eX.later bY
    have bWY := bX.trans (bY.mono bX.size)
    generalize X.drewN nq = Y at *
    obtain ⟨g0, g1, g2, g3, g4, g5, g6⟩ := eY.cells7
    obtain ⟨gf0, gf1, gf2, gf3, gf4, gf5, gf6⟩ := EBox.fz7b eY
    simp only at g0 g1 g2 g3 g4 g5 g6
    have bx := filled_box eY ⟨.slice none 0 0, 0, .slice none 0 0, 0, 0, 0, .slice none 0 0, [], [], []⟩
    have ap := filled_apart Y (W.heap.size + 1) ⟨.slice none 0 0, 0, .slice none 0 0, 0, 0, 0, .slice none 0 0, [], [], []⟩
    have HZ := Lib.hid (And.intro bx (bWY.trans (ap.below (by omega) bWY.size)))
    simp only [filled] at HZ
    clear bx ap eY bY bWY eX
    go_wp2
    have HH := HZ.out
    clear HZ
    generalize (((((((Y.setCell ⟨W.heap.size + 1, 0, none⟩ (.slice none 0 0)).setCell ⟨W.heap.size + 1, 1, none⟩ (.int .i64 0)).setCell ⟨W.heap.size + 1, 2, none⟩ (.slice none 0 0)).setCell ⟨W.heap.size + 1, 3, none⟩ (.int .i64 0)).setCell ⟨W.heap.size + 1, 4, none⟩ (.int .i64 0)).setCell ⟨W.heap.size + 1, 5, none⟩ (.int .i64 0)).setCell ⟨W.heap.size + 1, 6, none⟩ (.slice none 0 0)) = WZ at *
    obtain ⟨fb, bw⟩ := HH
    obtain ⟨t0, t1, t2, t3, t4, t5, t6⟩ := fb.cells7
    simp only at t0 t1 t2 t3 t4 t5 t6
    (try simp only [Exit.inBlock, Exit.then])
    refine bodyPost_ret (v := .tuple #[.agg #[.slice none 0 0, .int .i64 0, .slice none 0 0, .int .i64 0, .int .i64 0, .int .i64 0, .slice none 0 0], .int .i64 1]) ?hres rfl ?_
    case hres => simp [results, Tryz.results34, go_sem, t0, t1, t2, t3, t4, t5, t6]
    exact HEnd.out _ bw
  · have h1 : ¬ i < (N : Int) := fun k => hi ⟨by omega, k⟩
    have h2 : (N : Int) ≤ i := by omega
    go_enter Tryz.func34, Tryz.ntmps34
    go_upto_region 1 with fail
    rw [← HX.out]
    clear HX
    go_quiet (fail)
    have bY := below_drewN (Below.refl X.heap.size X) nq
    have eY := eX.later bY
    have bWY := bX.trans (bY.mono bX.size)
    generalize X.drewN nq = Y at *
    obtain ⟨g0, g1, g2, g3, g4, g5, g6⟩ := eY.cells7
    obtain ⟨gf0, gf1, gf2, gf3, gf4, gf5, gf6⟩ := EBox.fz7b eY
    simp only at g0 g1 g2 g3 g4 g5 g6
    have bx := filled_box eY ⟨.slice none 0 0, 0, .slice none 0 0, 0, 0, 0, .slice none 0 0, [], [], []⟩
    have ap := filled_apart Y (W.heap.size + 1) ⟨.slice none 0 0, 0, .slice none 0 0, 0, 0, 0, .slice none 0 0, [], [], []⟩
    have HZ := Lib.hid (And.intro bx (bWY.trans (ap.below (by omega) bWY.size)))
    simp only [filled] at HZ
    clear bx ap eY bY bWY eX
    go_wp2
    have HH := HZ.out
    clear HZ
    generalize (((((((Y.setCell ⟨W.heap.size + 1, 0, none⟩ (.slice none 0 0)).setCell ⟨W.heap.size + 1, 1, none⟩ (.int .i64 0)).setCell ⟨W.heap.size + 1, 2, none⟩ (.slice none 0 0)).setCell ⟨W.heap.size + 1, 3, none⟩ (.int .i64 0)).setCell ⟨W.heap.size + 1, 4, none⟩ (.int .i64 0)).setCell ⟨W.heap.size + 1, 5, none⟩ (.int .i64 0)).setCell ⟨W.heap.size + 1, 6, none⟩ (.slice none 0 0)) = WZ at *
    obtain ⟨fb, bw⟩ := HH
    obtain ⟨t0, t1, t2, t3, t4, t5, t6⟩ := fb.cells7
    simp only at t0 t1 t2 t3 t4 t5 t6
    (try simp only [Exit.inBlock, Exit.then])
    refine bodyPost_ret (v := .tuple #[.agg #[.slice none 0 0, .int .i64 0, .slice none 0 0, .int .i64 0, .int .i64 0, .int .i64 0, .slice none 0 0], .int .i64 1]) ?hres rfl ?_
    case hres => simp [results, Tryz.results34, go_sem, t0, t1, t2, t3, t4, t5, t6]
    exact HEnd.out _ bw
end Go.Proofs.YtchebhafabhabaaGreatDoor
