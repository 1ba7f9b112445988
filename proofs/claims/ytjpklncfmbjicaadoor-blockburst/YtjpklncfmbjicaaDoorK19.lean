import Derived.Test.YtjpklncfmbjicaaDoorK18
import Derived.RegionTactic
import Derived.BigRegion
import Derived.Deep.CutBlock
import Derived.OpenShut
import Derived.Test.YtjpklncfmbjicaaDoorRows
import Derived.ProofKit
import Derived.Deep.DeepHandedRow
import Derived.Lib.LaidTab
import Derived.Deep.Slices
namespace Go.Proofs.YtjpklncfmbjicaaDoor
open Go.RowKit
set_option linter.unusedVariables false

def turnI (bs : List Nat) (z : Int) : List Nat := if 0 ≤ z ∧ z < 8 * (bs.length : Int) then flip bs z.toNat else bs
def turnsI (bs : List Nat) (zs : List Int) : List Nat := zs.foldl turnI bs
theorem turnI_len (bs : List Nat) (z : Int) : (turnI bs z).length = bs.length := by unfold turnI; split <;> simp [flip_len]
theorem turnsI_len (zs : List Int) : ∀ bs, (turnsI bs zs).length = bs.length := by
  induction zs with
  | nil => intro bs; rfl
  | cons z zs ih => intro bs; show (turnsI (turnI bs z) zs).length = _; rw [ih, turnI_len]
theorem turnI_bys (bs : List Nat) (z : Int) (h : Bys bs) : Bys (turnI bs z) := by unfold turnI; split; exact flip_bys _ _ h; exact h
theorem turnsI_bys (zs : List Int) : ∀ bs, Bys bs → Bys (turnsI bs zs) := by
  induction zs with
  | nil => intro bs h; exact h
  | cons z zs ih => intro bs h; exact ih _ (turnI_bys bs z h)
theorem turnsI_snoc (bs : List Nat) (zs : List Int) (k : Nat) (h : k < zs.length) : turnsI bs (zs.take (k + 1)) = turnI (turnsI bs (zs.take k)) (zs.getD k 0) := by
  rw [List.take_succ_eq_append_getElem h]
  unfold turnsI
  rw [List.foldl_append]
  simp [List.getD, List.getElem?_eq_getElem h]

end Go.Proofs.YtjpklncfmbjicaaDoor

namespace Go.Proofs.YtjpklncfmbjicaaDoor
open Go.RowKit
set_option linter.unusedVariables false

def headL (n : Nat) : List Nat := be4 n ++ le4 (sumL (be4 n))
theorem headL_len (n : Nat) : (headL n).length = 8 := by simp [headL, be4, le4]
theorem frameL_split (body : List Nat) : frameL body = headL body.length ++ (body ++ le4 (sumL body)) := by simp [frameL, headL]
theorem getD_left (a b : List Nat) (i : Nat) (h : i < a.length) : (a ++ b).getD i 0 = a.getD i 0 := by simp [List.getD, List.getElem?_append_left h]
theorem getD_right (a b : List Nat) (i : Nat) : (a ++ b).getD (a.length + i) 0 = b.getD i 0 := by simp [List.getD, List.getElem?_append_right]

theorem bad_head (h rest : List Nat) (hl : h.length = 8) (hne : rdle (h.getD 4 0) (h.getD 5 0) (h.getD 6 0) (h.getD 7 0) ≠ sumL (h.take 4)) : frameR (h ++ rest) 0 = ([], 0, 12) := by
  have hr : headR (h ++ rest) = (0, 12) := by
    unfold headR
    rw [if_neg (by simp; omega), getD_left h rest 4 (by omega), getD_left h rest 5 (by omega), getD_left h rest 6 (by omega), getD_left h rest 7 (by omega), List.take_append_of_le_length (by omega), if_pos hne]
  unfold frameR
  rw [List.drop_zero, hr]
  rfl
theorem good_head (n : Nat) (hn : n ≤ 1048576) (rest : List Nat) : headR (headL n ++ rest) = (n, 0) := by
  have hs := sumL_lt (be4 n)
  have ht : (headL n ++ rest).take 4 = be4 n := by simp [headL, be4]
  unfold headR
  rw [if_neg (by simp [headL_len]), ht]
  have e4 : rdle ((headL n ++ rest).getD 4 0) ((headL n ++ rest).getD 5 0) ((headL n ++ rest).getD 6 0) ((headL n ++ rest).getD 7 0) = sumL (be4 n) := by
    simp [headL, be4, le4]
    exact le4_sum _ hs
  have e0 : rdle ((headL n ++ rest).getD 3 0) ((headL n ++ rest).getD 2 0) ((headL n ++ rest).getD 1 0) ((headL n ++ rest).getD 0 0) = n := by
    simp [headL, be4]
    unfold rdle
    omega
  rw [e4, e0, if_neg (by simp), if_neg (by omega)]
theorem bad_body (n : Nat) (hn : n ≤ 1048576) (X rest : List Nat) (hX : X.length = n + 4) (hne : rdle (X.getD n 0) (X.getD (n + 1) 0) (X.getD (n + 2) 0) (X.getD (n + 3) 0) ≠ sumL (X.take n)) :
    frameR (headL n ++ (X ++ rest)) 0 = ([], 0, 12) := by
  unfold frameR
  rw [List.drop_zero, good_head n hn]
  simp only [ne_eq, not_true_eq_false, if_false, Nat.zero_add]
  rw [if_neg (by simp [headL_len]; omega)]
  have hd : ∀ i, (headL n ++ (X ++ rest)).drop (8 + i) = (X ++ rest).drop i := by
    intro i
    rw [← headL_len n, List.drop_append]
    simp
  have hd8 : (headL n ++ (X ++ rest)).drop 8 = X ++ rest := by have := hd 0; simpa using this
  have g : ∀ i, i < 4 → ((X ++ rest).drop n).getD i 0 = X.getD (n + i) 0 := by
    intro i hi
    simp [List.getD, List.getElem?_append_left (show n + i < X.length by omega)]
  rw [hd n, hd8, g 0 (by omega), g 1 (by omega), g 2 (by omega), g 3 (by omega), List.take_append_of_le_length (by omega)]
  rw [Nat.add_zero]
  exact if_pos hne

def inR (N : Nat) (zs : List Int) : List Nat := zs.filterMap fun z => if 0 ≤ z ∧ z < 8 * (N : Int) then some z.toNat else none
theorem turnsI_flips (zs : List Int) : ∀ bs : List Nat, turnsI bs zs = flips bs (inR bs.length zs) := by
  induction zs with
  | nil => intro bs; rfl
  | cons z zs ih =>
    intro bs
    show turnsI (turnI bs z) zs = _
    rw [ih, turnI_len]
    unfold turnI inR
    by_cases h : 0 ≤ z ∧ z < 8 * (bs.length : Int)
    · simp [h, flips]
    · simp [h]
theorem inR_lt (N : Nat) (zs : List Int) : ∀ k ∈ inR N zs, k < 8 * N := by
  intro k hk
  unfold inR at hk
  rw [List.mem_filterMap] at hk
  obtain ⟨z, _, hz⟩ := hk
  split at hz
  · simp at hz; omega
  · simp at hz
theorem inR_len (N : Nat) (zs : List Int) : (inR N zs).length ≤ zs.length := List.length_filterMap_le _ _
def loB (n : Nat) (l : List Nat) : List Nat := l.filter fun k => decide (k < 8 * n)
def hiB (n : Nat) (l : List Nat) : List Nat := (l.filter fun k => !decide (k < 8 * n)).map fun k => k - 8 * n
theorem flip_left (a b : List Nat) (k : Nat) (h : k < 8 * a.length) : flip (a ++ b) k = flip a k ++ b := by
  unfold flip
  rw [getD_left a b _ (by omega), List.set_append_left _ _ (by omega)]
theorem flip_right (a b : List Nat) (k : Nat) (h : ¬ k < 8 * a.length) : flip (a ++ b) k = a ++ flip b (k - 8 * a.length) := by
  unfold flip
  rw [List.set_append_right _ _ (by omega)]
  have e1 : k / 8 - a.length = (k - 8 * a.length) / 8 := by omega
  have e2 : k % 8 = (k - 8 * a.length) % 8 := by omega
  have e3 : (a ++ b).getD (k / 8) 0 = b.getD ((k - 8 * a.length) / 8) 0 := by
    have := getD_right a b ((k - 8 * a.length) / 8)
    rw [← this]
    congr 1
    omega
  rw [e3, e1, ← e2]
theorem flips_split (l : List Nat) : ∀ (a b : List Nat), flips (a ++ b) l = flips a (loB a.length l) ++ flips b (hiB a.length l) := by
  induction l with
  | nil => intro a b; rfl
  | cons k l ih =>
    intro a b
    show flips (flip (a ++ b) k) l = _
    by_cases h : k < 8 * a.length
    · rw [flip_left a b k h, ih, flip_len]
      simp [loB, hiB, h, flips]
    · rw [flip_right a b k h, ih]
      simp [loB, hiB, h, flips]
theorem loB_len (n : Nat) (l : List Nat) : (loB n l).length ≤ l.length := List.length_filter_le _ _
theorem hiB_len (n : Nat) (l : List Nat) : (hiB n l).length ≤ l.length := by unfold hiB; rw [List.length_map]; exact List.length_filter_le _ _

theorem region3 (data : List Nat) (hd : Bys data) (hl : data.length ≤ 1048576) (l : List Nat) (hl3 : l.length ≤ 3) (hk : ∀ k ∈ l, k < 8 * (data.length + 4)) (X : List Nat) (hX : X = flips (data ++ le4 (sumL data)) l) (hne : X ≠ data ++ le4 (sumL data)) :
    rdle (X.getD data.length 0) (X.getD (data.length + 1) 0) (X.getD (data.length + 2) 0) (X.getD (data.length + 3) 0) ≠ sumL (X.take data.length) := by
  have hlen : (data ++ le4 (sumL data)).length = data.length + 4 := by simp [le4]
  have hx : X = xorL (data ++ le4 (sumL data)) (flips (List.replicate (data.length + 4) 0) l) := by rw [hX, flips_eq, hlen]
  refine detectX data _ hd (flips_bys l _ (zeros_bys _)) (by rw [flips_len]; simp) ?_ X hx
  intro he
  have := crcThree (data.length + 4) (by omega) l hl3 hk he
  rw [this, ← hlen, xorL_zero] at hx
  exact hne hx

theorem frame3 (body : List Nat) (hb : Bys body) (hl : body.length ≤ 1048576) (zs : List Int) (h3 : zs.length = 3) (hne : turnsI (frameL body) zs ≠ frameL body) (rest : List Nat) :
    frameR (turnsI (frameL body) zs ++ rest) 0 = ([], 0, 12) := by
  have hlen : (frameL body).length = body.length + 12 := by simp [frameL, be4, le4]
  obtain ⟨l, hl'⟩ : ∃ l, l = inR (frameL body).length zs := ⟨_, rfl⟩
  have hl3 : l.length ≤ 3 := by rw [hl', ← h3]; exact inR_len _ _
  have hlt : ∀ k ∈ l, k < 8 * (body.length + 12) := by rw [hl', ← hlen]; exact inR_lt _ _
  rw [turnsI_flips, ← hl', frameL_split] at hne ⊢
  rw [flips_split, headL_len] at hne ⊢
  rw [List.append_assoc]
  by_cases hh : flips (headL body.length) (loB 8 l) = headL body.length
  · rw [hh] at hne ⊢
    have hne2 : flips (body ++ le4 (sumL body)) (hiB 8 l) ≠ body ++ le4 (sumL body) := fun e => hne (by rw [e])
    refine bad_body body.length hl _ rest (by rw [flips_len]; simp [le4]) ?_
    refine region3 body hb hl (hiB 8 l) (Nat.le_trans (hiB_len 8 l) hl3) ?_ _ rfl hne2
    intro k hk
    unfold hiB at hk
    rw [List.mem_map] at hk
    obtain ⟨q, hq, rfl⟩ := hk
    rw [List.mem_filter] at hq
    have := hlt q hq.1
    simp at hq
    omega
  · have hd : (be4 body.length).length = 4 := rfl
    refine bad_head _ _ (by rw [flips_len, headL_len]) ?_
    have := region3 (be4 body.length) (be4_bys _ (by omega)) (by rw [hd]; omega) (loB 8 l) (Nat.le_trans (loB_len 8 l) hl3) (by
      intro k hk
      unfold loB at hk
      rw [List.mem_filter] at hk
      simp at hk
      rw [hd]
      omega) (flips (headL body.length) (loB 8 l)) rfl hh
    rw [hd] at this
    exact this

theorem frameL_len (body : List Nat) : (frameL body).length = body.length + 12 := by simp [frameL, be4, le4]
theorem own_addr {w : World} {B : Nat} {a : Option Addr} {m c : Nat} {xs : List Nat} (h : Own w B (.slice a m c) m xs) (hm : 0 < m) : ∃ g, a = some ⟨g, 0, none⟩ ∧ B ≤ g ∧ g < w.heap.size := by
  rcases h.2.2 with ⟨h1, h2⟩ | ⟨g, cap, cur, h3, h4, h5, _⟩
  · omega
  · simp only [Value.slice.injEq] at h3
    exact ⟨g, h3.1, h4, (Array.getElem?_eq_some_iff.1 h5).1⟩

end Go.Proofs.YtjpklncfmbjicaaDoor

namespace Go.Proofs.YtjpklncfmbjicaaDoor
open Go.RowKit
set_option linter.unusedVariables false

def burst (p hi pat : Nat) : Nat → List Nat
  | 0 => []
  | t + 1 => burst p hi pat t ++ (if p + t < hi ∧ pat / 2 ^ t % 2 = 1 then [p + t] else [])
def burstW (p hi pat : Nat) : Nat → Nat
  | 0 => 0
  | t + 1 => burstW p hi pat t ^^^ (if p + t < hi ∧ pat / 2 ^ t % 2 = 1 then 2 ^ t else 0)
theorem flips_append (bs l m : List Nat) : flips bs (l ++ m) = flips (flips bs l) m := by simp [flips, List.foldl_append]
theorem burst_err (N p hi pat : Nat) (hhi : hi ≤ 8 * N) (hp : p < hi) : ∀ t, errF (flips (List.replicate N 0) (burst p hi pat t)) = Tn (8 * N - p) (burstW p hi pat t) := by
  intro t
  induction t with
  | zero => simp [burst, burstW, flips, errF_zeros, Tn_zero]
  | succ t ih =>
    simp only [burst, burstW]
    by_cases h : p + t < hi ∧ pat / 2 ^ t % 2 = 1
    · rw [if_pos h, if_pos h, flips_append, Tn_xor, ← ih]
      show errF (flip (flips (List.replicate N 0) (burst p hi pat t)) (p + t)) = _
      have hl : (flips (List.replicate N 0) (burst p hi pat t)).length = N := by rw [flips_len]; simp
      rw [errF_flip _ _ (by rw [hl]; omega), hl]
      congr 1
      rw [show 8 * N - p = (8 * N - (p + t)) + t by omega, Tn_add]
      have := Tn_mul t 1
      rw [Nat.mul_one] at this
      rw [this]
    · rw [if_neg h, if_neg h, List.append_nil, Nat.xor_zero]
      exact ih
theorem burstW_lt (p hi pat : Nat) : ∀ t, burstW p hi pat t < 2 ^ t := by
  intro t
  induction t with
  | zero => simp [burstW]
  | succ t ih =>
    simp only [burstW]
    have h1 : burstW p hi pat t < 2 ^ (t + 1) := Nat.lt_trans ih (Nat.pow_lt_pow_right (by omega) (by omega))
    have h2 : (if p + t < hi ∧ pat / 2 ^ t % 2 = 1 then 2 ^ t else 0) < 2 ^ (t + 1) := by
      have := Nat.two_pow_pos t
      split
      · exact Nat.pow_lt_pow_right (by omega) (by omega)
      · rw [Nat.pow_succ]; omega
    exact Nat.xor_lt_two_pow h1 h2
theorem burst_nil (p hi pat : Nat) : ∀ t, burstW p hi pat t = 0 → burst p hi pat t = [] := by
  intro t
  induction t with
  | zero => intro _; rfl
  | succ t ih =>
    intro h
    simp only [burst, burstW] at h ⊢
    have hlt := burstW_lt p hi pat t
    have h2 := xor_zero h
    by_cases hc : p + t < hi ∧ pat / 2 ^ t % 2 = 1
    · rw [if_pos hc] at h2; omega
    · rw [if_neg hc] at h2 ⊢
      rw [ih h2]
      rfl
theorem burst_lt (p hi pat : Nat) : ∀ t, ∀ k ∈ burst p hi pat t, p ≤ k ∧ k < hi := by
  intro t
  induction t with
  | zero => intro k hk; simp [burst] at hk
  | succ t ih =>
    intro k hk
    simp only [burst] at hk
    rcases List.mem_append.1 hk with h | h
    · exact ih k h
    · split at h
      · rename_i hc
        simp at h
        omega
      · simp at h
theorem burst_shift (p hi pat d : Nat) : ∀ t, burst (d + p) (d + hi) pat t = (burst p hi pat t).map (fun k => d + k) := by
  intro t
  induction t with
  | zero => rfl
  | succ t ih =>
    simp only [burst]
    rw [ih, List.map_append]
    congr 1
    by_cases hc : p + t < hi ∧ pat / 2 ^ t % 2 = 1
    · rw [if_pos hc, if_pos ⟨by omega, hc.2⟩]
      simp
      omega
    · rw [if_neg hc, if_neg (fun h => hc ⟨by omega, h.2⟩)]
      rfl
theorem flips_right (l : List Nat) : ∀ (a b : List Nat), flips (a ++ b) (l.map (fun k => 8 * a.length + k)) = a ++ flips b l := by
  induction l with
  | nil => intro a b; rfl
  | cons k l ih =>
    intro a b
    show flips (flip (a ++ b) (8 * a.length + k)) _ = _
    rw [flip_right a b _ (by omega), show 8 * a.length + k - 8 * a.length = k by omega, ih]
    rfl
theorem flips_left (l : List Nat) : ∀ (a b : List Nat), (∀ k ∈ l, k < 8 * a.length) → flips (a ++ b) l = flips a l ++ b := by
  induction l with
  | nil => intro a b _; rfl
  | cons k l ih =>
    intro a b h
    show flips (flip (a ++ b) k) l = _
    rw [flip_left a b k (h k (by simp)), ih (flip a k) b (fun q hq => by rw [flip_len]; exact h q (by simp [hq]))]
    rfl
theorem regionB (data : List Nat) (hd : Bys data) (p pat : Nat) (hp : p < 8 * (data.length + 4)) (X : List Nat) (hX : X = flips (data ++ le4 (sumL data)) (burst p (8 * (data.length + 4)) pat 32)) (hne : X ≠ data ++ le4 (sumL data)) :
    rdle (X.getD data.length 0) (X.getD (data.length + 1) 0) (X.getD (data.length + 2) 0) (X.getD (data.length + 3) 0) ≠ sumL (X.take data.length) := by
  have hlen : (data ++ le4 (sumL data)).length = data.length + 4 := by simp [le4]
  have hx : X = xorL (data ++ le4 (sumL data)) (flips (List.replicate (data.length + 4) 0) (burst p (8 * (data.length + 4)) pat 32)) := by rw [hX, flips_eq, hlen]
  refine detectX data _ hd (flips_bys _ _ (zeros_bys _)) (by rw [flips_len]; simp) ?_ X hx
  intro he
  rw [burst_err _ _ _ _ (Nat.le_refl _) hp] at he
  have hw : burstW p (8 * (data.length + 4)) pat 32 = 0 := by
    by_cases h : burstW p (8 * (data.length + 4)) pat 32 = 0
    · exact h
    · exact absurd he (Tn_ne _ _ (burstW_lt _ _ _ 32) h)
  rw [burst_nil _ _ _ _ hw] at hX
  exact hne hX
theorem frameB_body (body : List Nat) (hb : Bys body) (hl : body.length ≤ 1048576) (p pat : Nat) (h64 : 64 ≤ p) (hp : p < 8 * (body.length + 12)) (F : List Nat) (hF : F = flips (frameL body) (burst p (8 * (body.length + 12)) pat 32)) (hne : F ≠ frameL body) (rest : List Nat) :
    frameR (F ++ rest) 0 = ([], 0, 12) := by
  have e : burst p (8 * (body.length + 12)) pat 32 = (burst (p - 64) (8 * (body.length + 4)) pat 32).map (fun k => 8 * (headL body.length).length + k) := by
    rw [headL_len]
    have := burst_shift (p - 64) (8 * (body.length + 4)) pat 64 32
    rw [show 64 + (p - 64) = p by omega, show 64 + 8 * (body.length + 4) = 8 * (body.length + 12) by omega] at this
    exact this
  rw [e, frameL_split, flips_right] at hF
  rw [hF, List.append_assoc]
  rw [hF, frameL_split] at hne
  refine bad_body body.length hl _ rest (by rw [flips_len]; simp [le4]) ?_
  exact regionB body hb (p - 64) pat (by omega) _ rfl (fun e => hne (by rw [e]))
theorem frameB_head (body : List Nat) (hb : Bys body) (hl : body.length ≤ 1048576) (p pat : Nat) (hp : p < 64) (F : List Nat) (hF : F = flips (frameL body) (burst p 64 pat 32)) (hne : F ≠ frameL body) (rest : List Nat) :
    frameR (F ++ rest) 0 = ([], 0, 12) := by
  have hd : (be4 body.length).length = 4 := rfl
  rw [frameL_split, flips_left _ _ _ (fun k hk => by rw [headL_len]; exact (burst_lt p 64 pat 32 k hk).2)] at hF
  rw [hF, List.append_assoc]
  rw [hF, frameL_split] at hne
  refine bad_head _ _ (by rw [flips_len, headL_len]) ?_
  have := regionB (be4 body.length) (be4_bys _ (by omega)) p pat (by rw [hd]; omega) (flips (headL body.length) (burst p 64 pat 32)) (by rw [hd]; rfl) (fun e => hne (by rw [e]; rfl))
  rw [hd] at this
  exact this

theorem xor_bit (y q : Nat) (hyl : y < 256) : bits .xor .u8 (y : Int) (2 ^ (q % 8) % 256) = ((y ^^^ 2 ^ (q % 8) : Nat) : Int) := by
  have h2 : 2 ^ (q % 8) < 256 := Nat.lt_of_lt_of_le (Nat.pow_lt_pow_right (by omega) (show q % 8 < 8 by omega)) (by decide)
  have h3 : ((2 : Int) ^ (q % 8)) = ((2 ^ (q % 8) : Nat) : Int) := by simp
  rw [h3]
  generalize 2 ^ (q % 8) = t at h2
  rw [show (t : Int) % 256 = (t : Int) by omega]
  exact u8_xor_nat y _ hyl h2
theorem bitAt (pat t : Nat) (hp : pat < 4294967296) : (bits .and .u32 ((pat : Int) / 2 ^ t) 1 == 1) = decide (pat / 2 ^ t % 2 = 1) := by
  have h1 : ((pat : Int) / 2 ^ t) = ((pat / 2 ^ t : Nat) : Int) := by simp
  have h2 : pat / 2 ^ t < 4294967296 := Nat.lt_of_le_of_lt (Nat.div_le_self _ _) hp
  rw [h1]
  have h3 := u32_and_nat (pat / 2 ^ t) 1 h2 (by omega)
  rw [nat_mask1] at h3
  rw [show ((1 : Int)) = ((1 : Nat) : Int) from rfl, h3]
  have : pat / 2 ^ t % 2 = 0 ∨ pat / 2 ^ t % 2 = 1 := by omega
  rcases this with h | h <;> rw [h] <;> rfl

end Go.Proofs.YtjpklncfmbjicaaDoor

namespace Go.Proofs.YtjpklncfmbjicaaDoor
open Go.RowKit Go.Shelf
set_option linter.unusedVariables false

theorem regionB2 (data : List Nat) (hd : Bys data) (p pat : Nat) (hp : p < 8 * (data.length + 4)) (X : List Nat) (hX : X = flips (data ++ le4 (sumL data)) (burst p (8 * (data.length + 4)) pat 32)) (hne : burst p (8 * (data.length + 4)) pat 32 ≠ []) :
    rdle (X.getD data.length 0) (X.getD (data.length + 1) 0) (X.getD (data.length + 2) 0) (X.getD (data.length + 3) 0) ≠ sumL (X.take data.length) := by
  have hlen : (data ++ le4 (sumL data)).length = data.length + 4 := by simp [le4]
  have hx : X = xorL (data ++ le4 (sumL data)) (flips (List.replicate (data.length + 4) 0) (burst p (8 * (data.length + 4)) pat 32)) := by rw [hX, flips_eq, hlen]
  refine detectX data _ hd (flips_bys _ _ (zeros_bys _)) (by rw [flips_len]; simp) ?_ X hx
  intro he
  rw [burst_err _ _ _ _ (Nat.le_refl _) hp] at he
  have hw : burstW p (8 * (data.length + 4)) pat 32 = 0 := by
    by_cases h : burstW p (8 * (data.length + 4)) pat 32 = 0
    · exact h
    · exact absurd he (Tn_ne _ _ (burstW_lt _ _ _ 32) h)
  exact hne (burst_nil _ _ _ _ hw)
theorem opE_burst {r : Nat} {l : List (List Nat × List Nat)} {E P : List Nat} (h : Blad r l E P) (hb : Bys (blockL E P l.length r)) (p pat : Nat) (hp : p < 8 * (blockL E P l.length r).length) (X : List Nat) (hX : X = flips (blockL E P l.length r) (burst p (8 * (blockL E P l.length r).length) pat 32)) (hne : burst p (8 * (blockL E P l.length r).length) pat 32 ≠ []) : opE X = 52 := by
  have hl := blockL_len E P l.length r
  have hs := h.size
  have hbl : (bodyL E P l.length r).length + 4 = (blockL E P l.length r).length := by simp [blockL, le4]
  have hXl : X.length = (blockL E P l.length r).length := by rw [hX, flips_len]
  have hbb : Bys (bodyL E P l.length r) := fun x hx => hb x (by unfold blockL; exact List.mem_append_left _ hx)
  rw [← hbl] at hp hX hne
  have := regionB2 (bodyL E P l.length r) hbb p pat hp X hX hne
  unfold opE
  rw [if_neg (by omega), if_neg (by omega), if_pos]
  unfold sum4
  rw [hXl, ← hbl, Nat.add_sub_cancel]
  exact this
theorem burst_len (p hi pat : Nat) : ∀ t, (burst p hi pat t).length ≤ t
  | 0 => by simp [burst]
  | t + 1 => by
    have := burst_len p hi pat t
    simp only [burst, List.length_append]
    split
    · simp; omega
    · simp; omega
set_option maxRecDepth 100000 in
set_option maxHeartbeats 8000000 in
theorem blockBurst_walk {W : World} {a : Option Addr} {cap : Nat} {l : List EntD} (r bit : Int) (pat : Nat) (hr : RdL5 W a cap l) (ht : Tab W) (hbit : -9223372036854775808 ≤ bit ∧ bit ≤ 9223372036854775807) (hpat : pat < 4294967296) :
    Calls Tryd.prog 5 #[.int .i64 r, .slice a l.length cap, .int .i64 bit, .int .u32 (pat : Int)] W fun x w' => x = .returned (.bool true) ∧ Below W.heap.size W w' := by
  have HT := Lib.hid ht
  have HSo := Lib.hid (sorted5_any hr)
  clear ht hr
  go_enter Tryd.func5, Tryd.ntmps5
  go_wp2_with fail
  refine Calls.mono HSo.out ?_
  rintro z X1 ⟨am, m, cm, zs, rfl, hm, hrd, hck, hup, h80, b1⟩
  subst hm
  have HBu := Lib.hid (build_any r hrd (HT.out.later b1))
  have HZ := Lib.hid (And.intro hrd (And.intro hck hup))
  have HB1 := Lib.hid b1
  obtain ⟨mz, hmz⟩ : ∃ mz, zs.length = mz := ⟨_, rfl⟩
  rw [hmz] at HBu
  have HMz := Lib.hid hmz
  simp only [hmz]
  clear hrd hck hup b1 HSo hmz
  go_wp2_with fail
  refine Calls.mono HBu.out ?_
  rintro z X2 ⟨v2, E2, rfl, b2, h1, h2, h3, h4⟩
  have HB2 := Lib.hid (HB1.out.trans (b2.mono HB1.out.size))
  have HTo := Lib.hid (fun (wx : World) (hx : Below W.heap.size W wx) => told5_any wx (HT.out.later hx))
  by_cases hE : E2 = 0
  · have hrr : 1 ≤ r ∧ r ≤ 16 := by
      by_cases k : 1 ≤ r ∧ r ≤ 16
      · exact k
      · have := (h1 k).1; omega
    have hb0 : (bldS r.toNat Bs.zero zs).1 = 0 := by
      by_cases k : (bldS r.toNat Bs.zero zs).1 = 0
      · exact k
      · have := (h2 hrr k).1; omega
    have hne : zs ≠ [] := fun k => by have := (h3 hrr hb0 k).1; omega
    obtain ⟨-, a2, m2, c2, rfl, own2⟩ := h4 hrr hb0 hne
    have hla := laid_of (r := r.toNat) (by omega) (by omega) hb0 hne
    have hbn : (bldS r.toNat Bs.zero zs).2.n = (kvL zs).length := by rw [bldS_n _ _ _ hb0, kvL_len]; simp [Bs.zero]
    have hby := hla.bys (HZ.out.1.bys HZ.out.2.1)
    rw [hbn] at own2
    obtain ⟨E, hEE⟩ : ∃ E, E = (bldS r.toNat Bs.zero zs).2.es := ⟨_, rfl⟩
    obtain ⟨P, hPP⟩ : ∃ P, P = (bldS r.toNat Bs.zero zs).2.ps := ⟨_, rfl⟩
    rw [← hEE, ← hPP] at own2 hla hby
    obtain ⟨F, hF⟩ : ∃ F, F = blockL E P (kvL zs).length r.toNat := ⟨_, rfl⟩
    rw [← hF] at own2 hby
    have hm2 : m2 = F.length := own2.1
    have hFl : F.length ≤ 131072 ∧ 9 ≤ F.length := by rw [hF, blockL_len]; have := hla.size; omega
    obtain ⟨g, hg⟩ : ∃ g, a2 = some ⟨g, 0, none⟩ := by
      rcases ownNonil own2 with ⟨_, k, _⟩ | k
      · omega
      · exact k
    subst hg
    have hgl := own2.2.lt g rfl
    have HO2 := Lib.hid own2
    have HLa := Lib.hid (And.intro hla (And.intro hF hby))
    have hm17 : m2 ≤ 131072 := by omega
    have hm9 : 9 ≤ m2 := by omega
    have HM2 := Lib.hid hm2
    have HG := Lib.hid (show W.heap.size ≤ g from Nat.le_trans HB1.out.size hgl.1)
    clear h1 h2 h3 h4 hb0 hne own2 hla hby hEE hPP hF hm2 hFl hgl hbn b2 HBu
    subst hE
    go_wp2_with fail
    refine Calls.mono (HTo.out _ HB2.out) ?_
    rintro z X3 ⟨rfl, b3⟩
    have HB3 := Lib.hid (HB2.out.trans (b3.mono HB2.out.size))
    have HO3 := Lib.hid (HO2.out.later b3)
    clear b3 HO2
    obtain ⟨PT, hPT⟩ : ∃ PT : Nat, (pat = 0 ∧ PT = 1) ∨ (pat ≠ 0 ∧ PT = pat) := by
      by_cases k : pat = 0
      · exact ⟨1, .inl ⟨k, rfl⟩⟩
      · exact ⟨pat, .inr ⟨k, rfl⟩⟩
    have HPT := Lib.hid hPT
    have hPT32 : PT < 4294967296 := by omega
    clear hPT
    go_upto_if 39 with fail
    go_cut [3] (fun p wx => p = .int .u32 (PT : Int) ∧ wx = X3)
    case first =>
      rcases HPT.out with ⟨h1, h2⟩ | ⟨h1, h2⟩
      · have h1i : (pat : Int) = 0 := by omega
        subst h2
        go_wp2
        go_meet
        exact ⟨rfl, rfl⟩
      · have h1i : ¬ (pat : Int) = 0 := by omega
        have h1b : ((pat : Int) == 0) = false := by rw [beq_eq_false_iff_ne]; exact h1i
        subst h2
        go_wp2
        go_meet
        exact ⟨rfl, rfl⟩
    case rest =>
    obtain ⟨rfl, rfl⟩ := hcut
    obtain ⟨T, hT⟩ : ∃ T, bit.tmod (8 * (m2 : Int)) = T := ⟨_, rfl⟩
    have hTb : -(8 * (m2 : Int)) < T ∧ T < 8 * (m2 : Int) := by
      rw [← hT]
      have h1 := Int.tmod_lt_of_pos bit (show (0 : Int) < 8 * (m2 : Int) by omega)
      have h2 := Int.tmod_lt_of_pos (-bit) (show (0 : Int) < 8 * (m2 : Int) by omega)
      rw [Int.neg_tmod] at h2
      omega
    obtain ⟨FR, hFR⟩ : ∃ FR : Nat, (T < 0 ∧ (FR : Int) = T + 8 * (m2 : Int)) ∨ (0 ≤ T ∧ (FR : Int) = T) := by
      by_cases k : T < 0
      · exact ⟨(T + 8 * (m2 : Int)).toNat, .inl ⟨k, by omega⟩⟩
      · exact ⟨T.toNat, .inr ⟨by omega, by omega⟩⟩
    have HFR := Lib.hid hFR
    have hFRl : FR < 8 * m2 := by omega
    have HTT := Lib.hid hT
    go_upto_region 9 with fail
    clear hT hFR
    go_upto_if 47 with fail
    go_cut [13] (fun p wx => p = .int .i64 (FR : Int) ∧ wx = wc)
    case first =>
      rcases HFR.out with ⟨h1, h2⟩ | ⟨h1, h2⟩
      · have h1d : decide (T < 0) = true := decide_eq_true h1
        go_wp2
        go_meet
        exact ⟨by rw [h2], rfl⟩
      · have h1d : decide (T < 0) = false := decide_eq_false (by omega)
        have h1n : ¬ T < 0 := by omega
        go_wp2
        go_meet
        exact ⟨by rw [h2], rfl⟩
    case rest =>
    obtain ⟨rfl, hw9⟩ := hcut
    subst hw9
    have HFB : Hid (Bys F) := HLa.out.2.2
    have HFL : Hid (F.length = m2) := HM2.out.symm
    have HK0 : Hid (Own wc X1.heap.size (.slice (some ⟨g, 0, none⟩) m2 c2) m2 (flips F (burst FR (8 * m2) PT 0)) ∧ Below W.heap.size W wc) := ⟨HO3.out, HB3.out⟩
    clear HFR HTT hTb HPT T
    go_wp2
    go_loopw [14, 15, 16] (fun tu iv _ wr => ∃ t q : Nat, t ≤ 32 ∧ q ≤ t ∧ iv = .int .i64 (t : Int) ∧ tu = .int .i64 (q : Int) ∧ Hid (q = (burst FR (8 * m2) PT t).length) ∧ Hid (Own wr X1.heap.size (.slice (some ⟨g, 0, none⟩) m2 c2) m2 (flips F (burst FR (8 * m2) PT t)) ∧ Below W.heap.size W wr)) (fun _ iv _ _ => 32 - (intOf iv).toNat)
    case atStart => exact ⟨0, 0, by omega, by omega, rfl, rfl, rfl, HK0⟩
    case round =>
      clear HK0
      obtain ⟨t, q, htl, hq, rfl, rfl, HQ, HK⟩ := hrel
      by_cases hlt : t < 32
      · have hlt2 : (t : Int) < 32 := by omega
        have hbit2 := bitAt PT t hPT32
        obtain ⟨Y, hY⟩ : ∃ Y, Y = flips F (burst FR (8 * m2) PT t) := ⟨_, rfl⟩
        have hOw : Own wr X1.heap.size (.slice (some ⟨g, 0, none⟩) m2 c2) m2 Y := by rw [hY]; exact HK.out.1
        have HY := Lib.hid hY
        have HYL : Hid (Y.length = m2) := by unfold Hid; rw [hY, flips_len, HFL.out]
        have hYb : Bys Y := by rw [hY]; exact flips_bys _ _ HFB.out
        have HBK := Lib.hid HK.out.2
        clear hY HK
        by_cases hc : FR + t < 8 * m2 ∧ PT / 2 ^ t % 2 = 1
        · have HB : Hid (burst FR (8 * m2) PT (t + 1) = burst FR (8 * m2) PT t ++ [FR + t]) := by unfold Hid; simp only [burst]; rw [if_pos hc]
          have hc1 : (FR : Int) + (t : Int) < 8 * (m2 : Int) := by have := hc.1; omega
          have hcb : (bits .and .u32 ((PT : Int) / 2 ^ t) 1 == 1) = true := by rw [hbit2]; simpa using hc.2
          clear hbit2
          have hjm : (FR + t) / 8 < m2 := by have := hc.1; omega
          have hcell : wr.cell? ⟨g, (FR + t) / 8, none⟩ = some (.int .u8 ((Y.getD ((FR + t) / 8) 0 : Nat) : Int)) := by
            rw [hOw.2.cellAt ((FR + t) / 8) (by omega)]
            have := HYL.out
            simp [bv, List.getElem?_eq_getElem (show (FR + t) / 8 < Y.length by omega)]
          have hyl := hYb.get ((FR + t) / 8)
          obtain ⟨y, hy⟩ : ∃ y, y = Y.getD ((FR + t) / 8) 0 := ⟨_, rfl⟩
          rw [← hy] at hcell hyl
          have HYY := Lib.hid hy
          clear hy hc
          have hfz := hOw.2.frozenAt ((FR + t) / 8)
          have hq1 : (0 : Int) ≤ ((FR : Int) + (t : Int)) / 8 := by omega
          have hq2 : ((FR : Int) + (t : Int)) / 8 < (m2 : Int) := by omega
          have HOW := Lib.hid hOw
          clear hOw
          have hval : bits .xor .u8 (y : Int) (2 ^ ((FR + t) % 8) % 256) = ((y ^^^ 2 ^ ((FR + t) % 8) : Nat) : Int) := xor_bit y (FR + t) hyl
          have HS : Hid (q + 1 = (burst FR (8 * m2) PT (t + 1)).length ∧ Own (wr.setCell ⟨g, (FR + t) / 8, none⟩ (.int .u8 (bits .xor .u8 (y : Int) (2 ^ ((FR + t) % 8) % 256)))) X1.heap.size (.slice (some ⟨g, 0, none⟩) m2 c2) m2 (flips F (burst FR (8 * m2) PT (t + 1))) ∧ Below W.heap.size W (wr.setCell ⟨g, (FR + t) / 8, none⟩ (.int .u8 (bits .xor .u8 (y : Int) (2 ^ ((FR + t) % 8) % 256))))) := by
            have st := HOW.out.2.stored ((FR + t) / 8) (.int .u8 (bits .xor .u8 (y : Int) (2 ^ ((FR + t) % 8) % 256)))
            refine ⟨by rw [HB.out, List.length_append, ← HQ.out]; rfl, ?_, HBK.out.setCell (p := ⟨g, (FR + t) / 8, none⟩) HG.out _⟩
            rw [HB.out, flips_append, ← HY.out]
            have hfl : flips Y [FR + t] = Y.set ((FR + t) / 8) (y ^^^ 2 ^ ((FR + t) % 8)) := by
              show flip Y (FR + t) = _
              unfold flip
              rw [← HYY.out]
            rw [hfl]
            refine ⟨by rw [List.length_set, HYL.out], ?_⟩
            have := st.1
            rw [hval] at this
            have e : bv (Y.set ((FR + t) / 8) (y ^^^ 2 ^ ((FR + t) % 8))) = (bv Y).set ((FR + t) / 8) (.int .u8 ((y ^^^ 2 ^ ((FR + t) % 8) : Nat) : Int)) := by
              simp [bv, List.map_set]
            rw [e, hval]
            exact this
          clear hval
          go_wp2
          exact ⟨⟨t + 1, q + 1, by omega, by omega, by go_num, by go_num, HS.out.1, HS.out.2⟩, by simp only [intOf]; omega⟩
        · have HB : Hid (burst FR (8 * m2) PT (t + 1) = burst FR (8 * m2) PT t) := by unfold Hid; simp only [burst]; rw [if_neg hc, List.append_nil]
          have HS : Hid (q = (burst FR (8 * m2) PT (t + 1)).length ∧ Own wr X1.heap.size (.slice (some ⟨g, 0, none⟩) m2 c2) m2 (flips F (burst FR (8 * m2) PT (t + 1))) ∧ Below W.heap.size W wr) := by
            rw [HB.out, ← HY.out]
            exact ⟨HQ.out, hOw, HBK.out⟩
          clear hOw
          by_cases hc1 : FR + t < 8 * m2
          · have hc2 : (FR : Int) + (t : Int) < 8 * (m2 : Int) := by omega
            have hcb : (bits .and .u32 ((PT : Int) / 2 ^ t) 1 == 1) = false := by
              rw [hbit2]
              have : ¬ PT / 2 ^ t % 2 = 1 := fun h => hc ⟨hc1, h⟩
              simpa using this
            clear hc hbit2
            go_wp2
            exact ⟨⟨t + 1, q, by omega, by omega, by go_num, rfl, HS.out.1, HS.out.2⟩, by simp only [intOf]; omega⟩
          · have hc2 : 8 * (m2 : Int) ≤ (FR : Int) + (t : Int) := by omega
            have hcd : decide ((FR : Int) + (t : Int) < 8 * (m2 : Int)) = false := by simp; omega
            clear hc hbit2
            go_wp2
            all_goals exact ⟨⟨t + 1, q, by omega, by omega, by go_num, rfl, HS.out.1, HS.out.2⟩, by simp only [intOf]; omega⟩
      · have hge : ¬ (t : Int) < 32 := by omega
        obtain rfl : t = 32 := by omega
        obtain ⟨Y, hY⟩ : ∃ Y, Y = flips F (burst FR (8 * m2) PT 32) := ⟨_, rfl⟩
        have hOw : Own wr X1.heap.size (.slice (some ⟨g, 0, none⟩) m2 c2) m2 Y := by rw [hY]; exact HK.out.1
        have hYb : Bys Y := by rw [hY]; exact flips_bys _ _ HFB.out
        have HOp := Lib.hid (open_any (hOw.rd hYb (by omega)) (HT.out.later HK.out.2))
        have HBK := Lib.hid HK.out.2
        have HRes : Hid ((q = 0 → opE Y = 0) ∧ (q ≠ 0 → opE Y = 52)) := by
          obtain ⟨h1, h2, h3⟩ := HLa.out
          refine ⟨fun h => ?_, fun h => ?_⟩
          · have hn : burst FR (8 * m2) PT 32 = [] := List.eq_nil_of_length_eq_zero (by rw [← HQ.out]; exact h)
            rw [hn] at hY
            rw [hY]
            show opE F = 0
            rw [h2]
            exact h1.opens.1
          · have hn : burst FR (8 * m2) PT 32 ≠ [] := fun k => h (by rw [HQ.out, k]; rfl)
            have hl : F.length = m2 := HFL.out
            rw [h2] at hl hY h3
            rw [← hl] at hn hY hFRl
            exact opE_burst h1 h3 FR PT hFRl Y hY hn
        clear hY hOw hYb HK
        go_wp2_with fail
        refine Calls.mono HOp.out ?_
        rintro z X9 ⟨b9, h⟩
        have HB9 := Lib.hid (HBK.out.trans (b9.mono HBK.out.size))
        by_cases hq0 : q = 0
        · have h0 := HRes.out.1 hq0
          rcases h with h | h
          · exact absurd h0 h.1
          · obtain ⟨-, g9, bb, ne, ce, np, cp, rfl, -⟩ := h
            have hq0b : ((q : Int) == 0) = true := by rw [beq_iff_eq]; omega
            clear b9 h0 HOp hq0
            go_wp2
            go_ret
            exact ⟨rfl, HB9.out⟩
        · have h0 := HRes.out.2 hq0
          rcases h with h | h
          · obtain ⟨-, rfl⟩ := h
            rw [h0]
            have hq0b : ((q : Int) == 0) = false := by rw [beq_eq_false_iff_ne]; omega
            clear b9 h0 HOp hq0
            go_wp2
            go_ret
            exact ⟨rfl, HB9.out⟩
          · rw [h0] at h
            exact absurd h.1 (by decide)
  · have hEi : ¬ (E2 : Int) = 0 := by omega
    clear h1 h2 h3 h4 b2 HBu
    go_wp2_with fail
    refine Calls.mono (HTo.out _ HB2.out) ?_
    rintro z X3 ⟨rfl, b3⟩
    have HB3 := Lib.hid (HB2.out.trans (b3.mono HB2.out.size))
    clear b3
    go_wp2_with fail
    refine Calls.mono (HTo.out _ HB3.out) ?_
    rintro z X4 ⟨rfl, b4⟩
    have HB4 := Lib.hid (HB3.out.trans (b4.mono HB3.out.size))
    clear b4
    go_wp2
    go_ret
    exact ⟨rfl, HB4.out⟩
end Go.Proofs.YtjpklncfmbjicaaDoor

namespace Go.Proofs.YtjpklncfmbjicaaDoor
open Go.RowKit Go.Shelf
set_option linter.unusedVariables false

theorem blockBurst_walk2 {W : World} {a : Option Addr} {cap : Nat} {l : List EntD} (r bit x : Int) (hr : RdL5 W a cap l) (ht : Tab W) (wp : (Lit.int .i64 bit).wf = true) (wx : (Lit.int .u32 x).wf = true) :
    Calls Tryd.prog 5 #[.int .i64 r, .slice a l.length cap, .int .i64 bit, .int .u32 x] W fun e w' => e = .returned (.bool true) ∧ Below W.heap.size W w' := by
  have h1 := bounds_i64 wp
  have h2 := bounds_u32 wx
  obtain ⟨s, rfl⟩ := Int.eq_ofNat_of_zero_le h2.1
  exact blockBurst_walk r bit s hr ht h1 (by omega)
end Go.Proofs.YtjpklncfmbjicaaDoor

namespace Go.Proofs.YtjpklncfmbjicaaDoor
open Go.ChangeShapes Go.WideShapes Go.ChangeAt Go.RowKit
set_option linter.unusedVariables false

theorem own_knob : ownKnob Tryd.prog.godebug = none := by kernel_rfl
theorem laid_out : laidOutB Tryd.prog = true := by kernel_rfl
theorem g_tab : Tryd.prog.globalNamed "strata/wire.halves" = some 0 := by kernel_rfl
theorem g_tab_type : (Tryd.prog.globals[0]?).map (·.type) = some 95 := by kernel_rfl
theorem und_tab : Tryd.prog.underlying 95 = some (.array 16 45) := by kernel_rfl
theorem und_u32 : Tryd.prog.underlying 45 = some (.int .u32) := by kernel_rfl
theorem und_int : Tryd.prog.underlying 3 = some (.int .i64) := by kernel_rfl
theorem und_u64 : Tryd.prog.underlying 92 = some (.int .u64) := by kernel_rfl
theorem und_bool : Tryd.prog.underlying 4 = some .bool := by kernel_rfl
theorem cells_tab : Tryd.prog.cellsOf 95 = 16 := by kernel_rfl
theorem cells_u32 : Tryd.prog.cellsOf 45 = 1 := by kernel_rfl
theorem cells_byte : Tryd.prog.cellsOf 5 = 1 := by kernel_rfl
theorem cells_bytes : Tryd.prog.cellsOf 24 = 1 := by kernel_rfl

theorem tab_of {W : World} (h : laidMetH Tryd.prog Rows.blockBackRow.laid W) : Tab W := by
  have t : Lib.TabIs Tryd.prog W "strata/wire.halves" .u32 [0, 274646895, 549293790, 820201905, 1098587580, 1361435347, 1640403810, 1905808397, 2197175160, 2460548119, 2722870694, 2987750089, 3280807620, 3553878443, 3811616794, 4084100981] :=
    Lib.tabIs_of_head (rest := []) g_tab g_tab_type und_tab und_u32 cells_u32 cells_tab h
  intro i hi
  have := t.cell g_tab i (by simpa using hi)
  rw [this]
  have key : ∀ j, j < 16 → ([0, 274646895, 549293790, 820201905, 1098587580, 1361435347, 1640403810, 1905808397, 2197175160, 2460548119, 2722870694, 2987750089, 3280807620, 3553878443, 3811616794, 4084100981] : List Int).getD j 0 = ((tab.getD j 0 : Nat) : Int) := by decide
  rw [key i hi]

theorem bulk_pos {H : Type} (d : DataW H) : 1 ≤ Rows.uptoBulk d := by
  cases d with
  | lit l => cases l <;> simp [Rows.uptoBulk]
  | nil => simp [Rows.uptoBulk]
  | ptr d => simp [Rows.uptoBulk]
  | slice elems spare => simp [Rows.uptoBulk]
  | agg parts => simp [Rows.uptoBulk]
  | iface t d => simp [Rows.uptoBulk]
  | map entries => simp [Rows.uptoBulk]
  | held h => simp [Rows.uptoBulk]
theorem bulk_len {H : Type} (l : List (DataW H)) : l.length ≤ Rows.uptoBulkAll l := by
  induction l with
  | nil => simp [Rows.uptoBulkAll]
  | cons x r ih => have := bulk_pos x; simp only [Rows.uptoBulkAll, List.length_cons]; omega

theorem open_bytes {H : Type} {enc : TypeId × Value → H} {W : World} {v : Value} {d : DataW H} {p : List MemPlace} {base : Nat} {held : Bool} (h : DataW.Trod enc Tryd.prog W base (fun _ => true) held 24 v d p) (hs : ∃ a n c, v = .slice a n c) :
    ∃ bs : List Nat, (bs.length ≤ 281474976710656 → Rd W v bs) ∧ bs.length + 1 ≤ Rows.uptoBulk d ∧ (bs = [] ∨ ∃ elems spare, d = .slice elems spare ∧ elems.length = bs.length) := by
  obtain ⟨a, n, c, rfl⟩ := hs
  obtain ⟨fuel, hf⟩ := h
  rcases open_ints und_bytes und_byte cells_byte hf with ⟨hcs, hx⟩ | ⟨x, l, c', zs, hcs, _, hl, hm, hz, hx, hcell, hwz⟩
  · simp [Value.cells] at hcs
    obtain ⟨rfl, rfl, rfl⟩ := hcs
    refine ⟨[], fun _ => Rd.nil W, ?_, .inl rfl⟩
    have := bulk_pos d
    simpa using this
  · simp [Value.cells] at hcs
    obtain ⟨rfl, rfl, rfl⟩ := hcs
    simp only [if_true] at hz
    simp only [Prod.mk.injEq] at hx
    obtain ⟨rfl, _⟩ := hx
    have hby : ∀ i, i < zs.length → 0 ≤ zs.getD i 0 ∧ zs.getD i 0 < 256 := by
      intro i hi
      have hmem : zs.getD i 0 ∈ zs := by simp [List.getD, List.getElem?_eq_getElem hi]
      have := bounds_u8 (hwz _ hmem)
      omega
    refine ⟨(zs.take n).map Int.toNat, fun hlen => ⟨?_, some x, c, ?_, ?_, hm, hlen, ?_, ?_⟩, ?_, .inr ⟨_, _, rfl, by simp [lits]⟩⟩
    · intro y hy
      simp only [List.mem_map] at hy
      obtain ⟨z, hz1, rfl⟩ := hy
      have := bounds_u8 (hwz z (List.mem_of_mem_take hz1))
      omega
    · simp; omega
    · simp; omega
    · by_cases hc0 : c = 0
      · exact .inl hc0
      · right
        obtain ⟨b, off, spot⟩ := x
        have hc := hcell 0 (by omega)
        have hspot : spot = none := by simpa [Addr.add] using World.cell?_spot hc
        subst hspot
        exact ⟨b, off, rfl⟩
    · by_cases hn0 : n = 0
      · left; simp [hn0]
      · right
        obtain ⟨b, off, spot⟩ := x
        have hc := hcell 0 (by omega)
        have hspot : spot = none := by simpa [Addr.add] using World.cell?_spot hc
        subst hspot
        refine ⟨b, off, rfl, fun i hi => ?_⟩
        have hin : i < n := by simp at hi; omega
        have hc := hcell i (by omega)
        have e : (⟨b, off, none⟩ : Addr).add i = ⟨b, off + i, none⟩ := by unfold Addr.add; split <;> simp_all
        rw [e] at hc
        rw [hc]
        have hb := hby i (by omega)
        have e2 : ((zs.take n).map Int.toNat).getD i 0 = (zs.getD i 0).toNat := by
          simp [List.getElem?_take_of_lt hin, List.getElem?_eq_getElem (show i < zs.length by omega)]
        rw [e2, Int.toNat_of_nonneg hb.1]
    · have h1 := bulk_len (H := H) (lits .u8 (zs.take n))
      simp only [Rows.uptoBulk]
      simp [lits] at h1 ⊢
      omega

theorem reach_bytes {H : Type} {ts : List TypeId} {ds gs : List (DataW H)} (h : (DataW.weightsEach Tryd.prog ts (ds ++ gs)).all (fun x => decide (x ≤ reachBytes)) = true) (j : Nat) (ht : ts[j]? = some 24) {d : DataW H} (hd : ds[j]? = some d) {bs : List Nat} (hx : bs = [] ∨ ∃ elems spare, d = .slice elems spare ∧ elems.length = bs.length) : bs.length ≤ 140737488351232 := by
  rcases hx with rfl | ⟨elems, spare, rfl, hl⟩
  · simp
  · have hd2 : (ds ++ gs)[j]? = some (.slice elems spare) := by
      rw [List.getElem?_append_left (List.getElem?_eq_some_iff.1 hd).1]
      exact hd
    have := sized_slice h ht hd2 und_bytes
    rw [show Tryd.prog.bytesOf 5 = 1 by kernel_rfl] at this
    unfold reachBytes at this
    omega

end Go.Proofs.YtjpklncfmbjicaaDoor

namespace Go.Proofs.YtjpklncfmbjicaaDoor
open Go.ChangeShapes Go.WideShapes Go.ChangeAt Go.RowKit
set_option linter.unusedVariables false

set_option maxRecDepth 100000 in
theorem und_entry : Tryd.prog.underlying 37 = some (.struct #[{ name := "Row", type := 24, offset := 0, embedded := false, tag := "", pkgPath := "", byteOffset := 0 }, { name := "Fam", type := 3, offset := 1, embedded := false, tag := "", pkgPath := "", byteOffset := 24 }, { name := "Qual", type := 24, offset := 2, embedded := false, tag := "", pkgPath := "", byteOffset := 32 }, { name := "Ts", type := 3, offset := 3, embedded := false, tag := "", pkgPath := "", byteOffset := 56 }, { name := "Seq", type := 3, offset := 4, embedded := false, tag := "", pkgPath := "", byteOffset := 64 }, { name := "Kind", type := 3, offset := 5, embedded := false, tag := "", pkgPath := "", byteOffset := 72 }, { name := "Value", type := 24, offset := 6, embedded := false, tag := "", pkgPath := "", byteOffset := 80 }]) := by kernel_rfl
theorem cells_entry : Tryd.prog.cellsOf 37 = 7 := by kernel_rfl
theorem cells_int : Tryd.prog.cellsOf 3 = 1 := by kernel_rfl

theorem slice_one {H : Type} {enc : TypeId × Value → H} {W : World} {base fuel : Nat} {held : Bool} {t e : TypeId} {c : Value} {x : DataW H × List MemPlace} (hu : Tryd.prog.underlying t = some (.slice e)) (h : DataW.trod enc Tryd.prog W base (fun _ => true) held fuel t [c] = some x) : (∃ a n k, c = .slice a n k) ∧ DataW.Trod enc Tryd.prog W base (fun _ => true) held t c x.1 x.2 := by
  have hsl : ∃ a n k, c = .slice a n k := by
    rcases DataW.trod_slice hu h with ⟨h0, _⟩ | ⟨a, len, cap, _, _, _, _, h0, _⟩
    · simp at h0; exact ⟨_, _, _, h0⟩
    · simp at h0; exact ⟨_, _, _, h0⟩
  refine ⟨hsl, fuel, ?_⟩
  obtain ⟨a, n, k, rfl⟩ := hsl
  simpa [Value.cells] using h

set_option maxRecDepth 100000 in
theorem open_entry {H : Type} {enc : TypeId × Value → H} {W : World} {base : Nat} {held : Bool} {v : Value} {d : DataW H} {p : List MemPlace} (h0 : DataW.Trod enc Tryd.prog W base (fun _ => true) held 37 v d p) (hv : ∃ cs, v = .agg cs ∧ cs.size = Tryd.prog.cellsOf 37) :
    ∃ e : EntD, v = .agg e.cells ∧ ((e.row.length ≤ 281474976710656 ∧ e.qual.length ≤ 281474976710656 ∧ e.val.length ≤ 281474976710656) → EntD.Ok W e) ∧ (e.row.length + e.qual.length + e.val.length + 8 ≤ Rows.uptoBulk d) ∧
      ((d.weights Tryd.prog 37).all (fun x => decide (x ≤ reachBytes)) = true → e.row.length ≤ 140737488351232 ∧ e.qual.length ≤ 140737488351232 ∧ e.val.length ≤ 140737488351232) := by
  obtain ⟨csA, rfl, hcs⟩ := hv
  obtain ⟨fuel, h⟩ := h0
  obtain ⟨cs⟩ := csA
  simp only [Value.cells] at h
  obtain ⟨xs, n, hx, hdp, hcl, hxl, hf⟩ := DataW.trod_struct und_entry h
  simp only [Prod.mk.injEq] at hdp
  obtain ⟨rfl, rfl⟩ := hdp
  rw [cells_entry] at hcl
  obtain ⟨c0, c1, c2, c3, c4, c5, c6, rfl⟩ : ∃ c0 c1 c2 c3 c4 c5 c6, cs = [c0, c1, c2, c3, c4, c5, c6] := by
    match cs, hcl with
    | [c0, c1, c2, c3, c4, c5, c6], _ => exact ⟨_, _, _, _, _, _, _, rfl⟩
  obtain ⟨x0, x1, x2, x3, x4, x5, x6, rfl⟩ : ∃ x0 x1 x2 x3 x4 x5 x6, xs = [x0, x1, x2, x3, x4, x5, x6] := by
    match xs, hxl with
    | [c0, c1, c2, c3, c4, c5, c6], _ => exact ⟨_, _, _, _, _, _, _, rfl⟩
  have f0 := hf 0 _ rfl
  have f1 := hf 1 _ rfl
  have f2 := hf 2 _ rfl
  have f3 := hf 3 _ rfl
  have f4 := hf 4 _ rfl
  have f5 := hf 5 _ rfl
  have f6 := hf 6 _ rfl
  simp [cells_int, cells_bytes] at f0 f1 f2 f3 f4 f5 f6
  obtain ⟨n1, e1, b1, w1⟩ := DataW.trod_int und_int f1
  obtain ⟨n3, e3, b3, w3⟩ := DataW.trod_int und_int f3
  obtain ⟨n4, e4, b4, w4⟩ := DataW.trod_int und_int f4
  obtain ⟨n5, e5, b5, w5⟩ := DataW.trod_int und_int f5
  simp at e1 e3 e4 e5
  subst e1 e3 e4 e5
  obtain ⟨s0, t0⟩ := slice_one und_bytes f0
  obtain ⟨s2, t2⟩ := slice_one und_bytes f2
  obtain ⟨s6, t6⟩ := slice_one und_bytes f6
  obtain ⟨row, hr, hrl, hrd⟩ := open_bytes t0 s0
  obtain ⟨qual, hq, hql, hqd⟩ := open_bytes t2 s2
  obtain ⟨val, hw, hwl, hwd⟩ := open_bytes t6 s6
  refine ⟨⟨c0, n1, c2, n3, n4, n5, c6, row, qual, val⟩, rfl, fun h => ⟨hr h.1, hq h.2.1, hw h.2.2⟩, ?_, fun hs => ?_⟩
  · have q1 := bulk_pos x1.1
    have q3 := bulk_pos x3.1
    have q4 := bulk_pos x4.1
    have q5 := bulk_pos x5.1
    simp only [Rows.uptoBulk, List.map_cons, List.map_nil, Rows.uptoBulkAll]
    omega
  · have hs2 : (DataW.weightsEach Tryd.prog [24, 3, 24, 3, 3, 3, 24] ([x0.1, x1.1, x2.1, x3.1, x4.1, x5.1, x6.1] ++ [])).all (fun x => decide (x ≤ reachBytes)) = true := by
      simp only [DataW.weights, und_entry] at hs
      simpa using hs
    exact ⟨reach_bytes hs2 0 rfl rfl hrd, reach_bytes hs2 2 rfl rfl hqd, reach_bytes hs2 6 rfl rfl hwd⟩

theorem weight_at {H : Type} : ∀ {ts : List TypeId} {ds : List (DataW H)} (h : (DataW.weightsEach Tryd.prog ts ds).all (fun x => decide (x ≤ reachBytes)) = true) (j : Nat) {t : TypeId} {d : DataW H} (ht : ts[j]? = some t) (hd : ds[j]? = some d), (d.weights Tryd.prog t).all (fun x => decide (x ≤ reachBytes)) = true
  | [], _, _, j, _, _, ht, _ => by simp at ht
  | _ :: _, [], _, j, _, _, _, hd => by simp at hd
  | t :: ts, d :: ds, h, 0, _, _, ht, hd => by
    simp only [List.getElem?_cons_zero, Option.some.injEq] at ht hd
    subst ht hd
    simp only [DataW.weightsEach, List.all_append, Bool.and_eq_true] at h
    exact h.1
  | t :: ts, d :: ds, h, j + 1, _, _, ht, hd => by
    simp only [DataW.weightsEach, List.all_append, Bool.and_eq_true] at h
    exact weight_at h.2 j (by simpa using ht) (by simpa using hd)

end Go.Proofs.YtjpklncfmbjicaaDoor

namespace Go.Proofs.YtjpklncfmbjicaaDoor
open Go.ChangeShapes Go.WideShapes Go.ChangeAt Go.RowKit
set_option linter.unusedVariables false

theorem weight_allE5 {H : Type} {e : TypeId} : ∀ {ds : List (DataW H)} (h : (DataW.weightsAll Tryd.prog e ds).all (fun x => decide (x ≤ reachBytes)) = true) {d : DataW H} (hd : d ∈ ds), (d.weights Tryd.prog e).all (fun x => decide (x ≤ reachBytes)) = true
  | [], _, _, hd => by cases hd
  | x :: ds, h, d, hd => by
    simp only [DataW.weightsAll, List.all_append, Bool.and_eq_true] at h
    rcases List.mem_cons.1 hd with rfl | hd
    · exact h.1
    · exact weight_allE5 h.2 hd

set_option maxRecDepth 100000 in
theorem open_entc5 {H : Type} {enc : TypeId × Value → H} {W : World} {base fuel : Nat} {held : Bool} {cs : List Value} {x : DataW H × List MemPlace} (h : DataW.trod enc Tryd.prog W base (fun _ => true) held fuel 37 cs = some x) (hl : cs.length = 7) (hk : (x.1.weights Tryd.prog 37).all (fun x => decide (x ≤ reachBytes)) = true) :
    ∃ e : EntD, cs = e.cells.toList ∧ EntD.Ok W e := by
  obtain ⟨d, p⟩ := x
  obtain ⟨e, h1, h2, _, h4⟩ := open_entry (v := .agg cs.toArray) (d := d) (p := p) ⟨fuel, by simpa [Value.cells] using h⟩ ⟨cs.toArray, rfl, by rw [cells_entry]; simpa using hl⟩
  have h5 := h4 hk
  refine ⟨e, ?_, h2 ⟨by omega, by omega, by omega⟩⟩
  have : cs.toArray = e.cells := by injection h1
  rw [← this]

set_option maxRecDepth 100000 in
theorem open_ents5 {H : Type} {enc : TypeId × Value → H} {W : World} {base : Nat} {held : Bool} {v : Value} {d : DataW H} {p : List MemPlace} (h0 : DataW.Trod enc Tryd.prog W base (fun _ => true) held 22 v d p) (hv : ∃ a n c, v = .slice a n c)
    (hk : (d.weights Tryd.prog 22).all (fun x => decide (x ≤ reachBytes)) = true) :
    ∃ a cap xs, v = .slice a xs.length cap ∧ RdL5 W a cap xs := by
  obtain ⟨a, n, c, rfl⟩ := hv
  obtain ⟨fuel2, hf2⟩ := h0
  have hs2 : (DataW.weightsEach Tryd.prog [22] ([d] ++ [])).all (fun x => decide (x ≤ reachBytes)) = true := by
    simpa [DataW.weightsEach] using hk
  rcases Deep.open_slice und_ents5 hf2 with ⟨hcs, hx⟩ | ⟨x, l, c', m, k, D, Pl, hcs, _, hl, hm, hmm, hx, hel⟩
  · simp [Value.cells] at hcs
    obtain ⟨rfl, rfl, rfl⟩ := hcs
    exact ⟨none, 0, [], rfl, ⟨by simp, Nat.zero_le _⟩, .inl rfl, (fun x hx => by cases hx), fun _ => rfl⟩
  · simp [Value.cells] at hcs
    obtain ⟨rfl, rfl, rfl⟩ := hcs
    simp only [if_true] at hmm
    simp only [Prod.mk.injEq] at hx
    obtain ⟨hx1, _⟩ := hx
    have hn : n ≤ 281474976710656 := by
      rw [hx1] at hs2
      have := sized_slice hs2 (j := 0) (t := 22) rfl rfl und_ents5
      rw [show Tryd.prog.bytesOf 37 = 104 by kernel_rfl] at this
      simp at this
      unfold reachBytes at this
      omega
    have hwt : ∀ j, j < n → ((D j).weights Tryd.prog 37).all (fun x => decide (x ≤ reachBytes)) = true := by
      intro j hj
      rw [hx1] at hk
      simp only [DataW.weights, und_ents5, List.all_cons, List.all_append, Bool.and_eq_true] at hk
      exact weight_allE5 hk.2.1 (by simp only [List.mem_map, List.mem_range]; exact ⟨j, hj, rfl⟩)
    rw [cells_entry] at hel
    have hop : ∀ i, i < n → ∃ e : EntD, (∀ j y, e.cells.toList[j]? = some y → W.cell? ((x.add (i * 7)).add j) = some y) ∧ EntD.Ok W e := by
      intro i hi
      obtain ⟨cs', hc1, hc2⟩ := hel i (by omega)
      obtain ⟨_, hlen, hget⟩ := World.cells?_some hc1
      obtain ⟨e, rfl, hok⟩ := open_entc5 hc2 hlen (hwt i hi)
      refine ⟨e, fun j y hj => ?_, hok⟩
      have hj7 : j < 7 := by
        have := (List.getElem?_eq_some_iff.1 hj).1
        simpa [EntD.cells] using this
      rw [hget j hj7]
      exact hj
    have build : ∀ q, q ≤ n → ∃ fs : List EntD, fs.length = q ∧ ∀ i f, fs[i]? = some f → (∀ j y, f.cells.toList[j]? = some y → W.cell? ((x.add (i * 7)).add j) = some y) ∧ EntD.Ok W f := by
      intro q
      induction q with
      | zero => intro _; exact ⟨[], rfl, fun i o h => by simp at h⟩
      | succ q ih =>
        intro hq
        obtain ⟨os, hol, hos⟩ := ih (by omega)
        obtain ⟨o, ho⟩ := hop q (by omega)
        refine ⟨os ++ [o], by simp [hol], fun i o' h => ?_⟩
        by_cases hi : i < os.length
        · rw [List.getElem?_append_left hi] at h
          exact hos i o' h
        · rw [List.getElem?_append_right (by omega)] at h
          have hi2 : i = q := by
            by_cases h9 : i - os.length = 0
            · omega
            · rw [List.getElem?_eq_none (by simp; omega)] at h; cases h
          subst hi2
          rw [hol, Nat.sub_self] at h
          simp at h
          subst h
          exact ho
    obtain ⟨fs, hol, hos⟩ := build n (Nat.le_refl _)
    refine ⟨some x, c, fs, by rw [hol], ⟨by omega, hm⟩, ?_, fun f hf => ?_, fun h => by cases h⟩
    · by_cases hn0 : n = 0
      · exact .inl (List.eq_nil_of_length_eq_zero (by omega))
      · right
        obtain ⟨b, off, spot⟩ := x
        obtain ⟨o, hc, _⟩ := hop 0 (by omega)
        have hc0 := hc 0 _ rfl
        have hspot : spot = none := by simpa [Addr.add] using World.cell?_spot hc0
        subst hspot
        have e : ∀ q r : Nat, ((⟨b, q, none⟩ : Addr).add r) = ⟨b, q + r, none⟩ := fun q r => by unfold Addr.add; split <;> simp_all
        refine ⟨b, off, rfl, fun i f hi j u hj => ?_⟩
        have h1 := (hos i f hi).1 j u hj
        rw [e, e] at h1
        exact h1
    · obtain ⟨i, hi⟩ := List.getElem?_of_mem hf
      exact (hos i f hi).2
end Go.Proofs.YtjpklncfmbjicaaDoor
