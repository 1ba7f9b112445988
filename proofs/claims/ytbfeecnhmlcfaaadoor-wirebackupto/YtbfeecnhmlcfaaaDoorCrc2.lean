import Derived.Test.YtbfeecnhmlcfaaaDoorCrc
import Derived.Test.YtbfeecnhmlcfaaaDoorReadFrame
namespace Go.Proofs.YtbfeecnhmlcfaaaDoor
open Go.RowKit
set_option linter.unusedVariables false

theorem xorL_len (a b : List Nat) (h : a.length = b.length) : (xorL a b).length = a.length := by simp [xorL, h]
theorem xorL_zero (a : List Nat) : xorL a (List.replicate a.length 0) = a := by
  induction a with
  | nil => rfl
  | cons x a ih => show (x ^^^ 0) :: xorL a (List.replicate a.length 0) = _; rw [ih, Nat.xor_zero]
theorem xorL_get (a b : List Nat) (h : a.length = b.length) (i : Nat) (hi : i < a.length) : (xorL a b).getD i 0 = a.getD i 0 ^^^ b.getD i 0 := by
  have hb : i < b.length := by omega
  simp [xorL, List.getD, List.getElem?_zipWith, List.getElem?_eq_getElem hi, List.getElem?_eq_getElem hb]
theorem xorL_take (a b : List Nat) (n : Nat) : (xorL a b).take n = xorL (a.take n) (b.take n) := by simp [xorL, List.take_zipWith]
theorem flip_xor : ∀ (a e : List Nat) (k : Nat), a.length = e.length → flip (xorL a e) k = xorL a (flip e k) := by
  intro a e k h
  by_cases hk : k / 8 < a.length
  · apply List.ext_getElem?
    intro i
    unfold flip
    by_cases hi : i < a.length
    · by_cases hik : k / 8 = i
      · subst hik
        have h2 : k / 8 < e.length := by omega
        have h3 : k / 8 < (xorL a e).length := by rw [xorL_len a e h]; exact hk
        rw [List.getElem?_set_self h3, xorL_get a e h _ hk]
        simp [xorL, List.getElem?_zipWith, List.getElem?_eq_getElem hi, h2, Nat.xor_assoc]
      · rw [List.getElem?_set_ne hik]
        simp [xorL, List.getElem?_zipWith, List.getElem?_set_ne hik]
    · have h1 : ((xorL a e).set (k / 8) ((xorL a e).getD (k / 8) 0 ^^^ 2 ^ (k % 8)))[i]? = none := List.getElem?_eq_none (by rw [List.length_set, xorL_len a e h]; omega)
      have h2 : (xorL a (e.set (k / 8) (e.getD (k / 8) 0 ^^^ 2 ^ (k % 8))))[i]? = none := List.getElem?_eq_none (by rw [xorL_len _ _ (by simp [h])]; omega)
      rw [h1, h2]
  · have h1 : flip (xorL a e) k = xorL a e := by unfold flip; rw [List.set_eq_of_length_le (by rw [xorL_len a e h]; omega)]
    have h2 : flip e k = e := by unfold flip; rw [List.set_eq_of_length_le (by omega)]
    rw [h1, h2]
def flips (bs : List Nat) (l : List Nat) : List Nat := l.foldl flip bs
theorem flips_len (l : List Nat) : ∀ bs, (flips bs l).length = bs.length := by
  induction l with
  | nil => intro bs; rfl
  | cons k l ih => intro bs; show (flips (flip bs k) l).length = _; rw [ih, flip_len]
theorem flips_xor (l : List Nat) : ∀ (a e : List Nat), a.length = e.length → flips (xorL a e) l = xorL a (flips e l) := by
  induction l with
  | nil => intro a e _; rfl
  | cons k l ih =>
    intro a e h
    show flips (flip (xorL a e) k) l = xorL a (flips (flip e k) l)
    rw [flip_xor a e k h, ih a (flip e k) (by rw [flip_len]; exact h)]
theorem flips_eq (a l : List Nat) : flips a l = xorL a (flips (List.replicate a.length 0) l) := by
  conv => lhs; rw [← xorL_zero a]
  exact flips_xor l a _ (by simp)
theorem flip_bys (bs : List Nat) (k : Nat) (h : Bys bs) : Bys (flip bs k) := by
  intro x hx
  unfold flip at hx
  rcases List.mem_or_eq_of_mem_set hx with h1 | h1
  · exact h x h1
  · rw [h1]
    have h2 : 2 ^ (k % 8) < 2 ^ 8 := Nat.pow_lt_pow_right (by omega) (by omega)
    exact Nat.xor_lt_two_pow (n := 8) (h.get _) h2
theorem flips_bys (l : List Nat) : ∀ bs, Bys bs → Bys (flips bs l) := by
  induction l with
  | nil => intro bs h; exact h
  | cons k l ih => intro bs h; exact ih _ (flip_bys bs k h)
theorem zeros_bys (n : Nat) : Bys (List.replicate n 0) := by intro x hx; rw [List.mem_replicate] at hx; omega
theorem errF_zeros (n : Nat) : errF (List.replicate n 0) = 0 := by
  unfold errF
  induction n with
  | zero => rfl
  | succ n ih => show crcL (crcB 0 0) (List.replicate n 0) = 0; rw [show crcB 0 0 = 0 by decide]; exact ih
theorem flip_flip (bs : List Nat) (k : Nat) : flip (flip bs k) k = bs := by
  by_cases hk : k / 8 < bs.length
  · unfold flip
    apply List.ext_getElem?
    intro i
    by_cases hik : k / 8 = i
    · subst hik
      simp [hk, Nat.xor_assoc]
    · simp [List.getElem?_set_ne hik]
  · have h2 : flip bs k = bs := by unfold flip; rw [List.set_eq_of_length_le (by omega)]
    rw [h2, h2]
/-- One to three bits never come to nothing. -/
theorem three (N : Nat) (hN : 8 * N < 2147483647) (l : List Nat) (hl : l.length ≤ 3) (hk : ∀ k ∈ l, k < 8 * N) (h : errF (flips (List.replicate N 0) l) = 0) : flips (List.replicate N 0) l = List.replicate N 0 := by
  have step : ∀ (e : List Nat) (k : Nat), e.length = N → k < 8 * N → errF (flip e k) = errF e ^^^ Tn (8 * N - k) 1 := by
    intro e k he hk; have := errF_flip e k (by rw [he]; exact hk); rwa [he] at this
  match l, hl with
  | [], _ => rfl
  | [a], _ =>
    exfalso
    have e1 := step (List.replicate N 0) a (by simp) (hk a (by simp))
    rw [errF_zeros, Nat.zero_xor] at e1
    change errF (flip (List.replicate N 0) a) = 0 at h
    rw [e1] at h
    exact Tn_ne _ 1 (by omega) (by omega) h
  | [a, b], _ =>
    have ha := hk a (by simp)
    have hb := hk b (by simp)
    have e1 := step (List.replicate N 0) a (by simp) ha
    rw [errF_zeros, Nat.zero_xor] at e1
    have e2 := step (flip (List.replicate N 0) a) b (by rw [flip_len]; simp) hb
    change errF (flip (flip (List.replicate N 0) a) b) = 0 at h
    rw [e2, e1] at h
    have h2 := xor_zero h
    have hab : a = b := by
      have key : ∀ x y : Nat, x < y → y < 8 * N → Tn (8 * N - x) 1 = Tn (8 * N - y) 1 → False := by
        intro x y hxy hy he
        rw [show 8 * N - x = (8 * N - y) + (y - x) by omega, Tn_add] at he
        exact ord_big (y - x) (by omega) (by omega) (Tn_inj _ _ _ (Tn_lt _ 1 (by omega)) (by omega) he)
      rcases Nat.lt_trichotomy a b with h3 | h3 | h3
      · exact (key a b h3 hb h2).elim
      · exact h3
      · exact (key b a h3 ha h2.symm).elim
    subst hab
    exact flip_flip _ _
  | [a, b, c], _ =>
    exfalso
    have e1 := step (List.replicate N 0) a (by simp) (hk a (by simp))
    rw [errF_zeros, Nat.zero_xor] at e1
    have e2 := step (flip (List.replicate N 0) a) b (by rw [flip_len]; simp) (hk b (by simp))
    have e3 := step (flip (flip (List.replicate N 0) a) b) c (by rw [flip_len, flip_len]; simp) (hk c (by simp))
    change errF (flip (flip (flip (List.replicate N 0) a) b) c) = 0 at h
    rw [e3, e2, e1] at h
    have hp := congrArg (par 32) h
    rw [par_xor, par_xor, par_one, par_one, par_one] at hp
    exact absurd hp (by decide)

theorem le4_sum (s : Nat) (h : s < 4294967296) : rdle (s % 256) (s / 256 % 256) (s / 65536 % 256) (s / 16777216) = s := by unfold rdle; omega
/-- Bytes with their sum, changed: the sum no longer fits. -/
theorem detectX (data e : List Nat) (hd : Bys data) (he : Bys e) (hl : e.length = data.length + 4) (hne : errF e ≠ 0) (X : List Nat) (hX : X = xorL (data ++ le4 (sumL data)) e) :
    rdle (X.getD data.length 0) (X.getD (data.length + 1) 0) (X.getD (data.length + 2) 0) (X.getD (data.length + 3) 0) ≠ sumL (X.take data.length) := by
  have hs := sumL_lt data
  have hlen : (data ++ le4 (sumL data)).length = e.length := by rw [hl]; simp [le4]
  have g : ∀ i, i < 4 → X.getD (data.length + i) 0 = (le4 (sumL data)).getD i 0 ^^^ e.getD (data.length + i) 0 := by
    intro i hi
    rw [hX, xorL_get _ _ hlen _ (by simp [le4]; omega)]
    congr 1
    simp [List.getD, List.getElem?_append_right]
  have t : X.take data.length = xorL data (e.take data.length) := by
    rw [hX, xorL_take]
    congr 1
    simp
  have e4 : e = e.take data.length ++ [e.getD data.length 0, e.getD (data.length + 1) 0, e.getD (data.length + 2) 0, e.getD (data.length + 3) 0] := by
    apply List.ext_getElem?
    intro i
    by_cases hi : i < data.length
    · rw [List.getElem?_append_left (by simp; omega), List.getElem?_take_of_lt hi]
    · rw [List.getElem?_append_right (by simp; omega)]
      have hm : (e.take data.length).length = data.length := by simp; omega
      rw [hm]
      by_cases hi4 : i < data.length + 4
      · have hie : i < e.length := by omega
        have hc : i - data.length = 0 ∨ i - data.length = 1 ∨ i - data.length = 2 ∨ i - data.length = 3 := by omega
        rcases hc with h | h | h | h
        · have : i = data.length := by omega
          subst this
          simp [List.getElem?_eq_getElem hie]
        · have : i = data.length + 1 := by omega
          subst this
          simp [List.getElem?_eq_getElem hie]
        · have : i = data.length + 2 := by omega
          subst this
          simp [List.getElem?_eq_getElem hie]
        · have : i = data.length + 3 := by omega
          subst this
          simp [List.getElem?_eq_getElem hie]
      · rw [List.getElem?_eq_none (by omega), List.getElem?_eq_none (by simp; omega)]
  have g0 := g 0 (by omega)
  have g1 := g 1 (by omega)
  have g2 := g 2 (by omega)
  have g3 := g 3 (by omega)
  rw [Nat.add_zero] at g0
  rw [g0, g1, g2, g3, t]
  refine detect data (e.take data.length) hd (fun x hx => he x (List.mem_of_mem_take hx)) (by simp; omega) _ _ _ _ _ _ _ _ ?_ ?_ ?_ (he.get _) (he.get _) (he.get _) ?_ (he.get _) ?_ ?_
  · simp [le4]; omega
  · simp [le4]; omega
  · simp [le4]; omega
  · simp [le4]; omega
  · simp [le4]; exact le4_sum _ hs
  · rw [Nat.add_zero]
    rw [← e4]
    exact hne

end Go.Proofs.YtbfeecnhmlcfaaaDoor
