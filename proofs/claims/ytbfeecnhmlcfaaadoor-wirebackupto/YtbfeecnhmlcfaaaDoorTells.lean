import Derived.Test.YtbfeecnhmlcfaaaDoorTurned
namespace Go.Proofs.YtbfeecnhmlcfaaaDoor
open Go.RowKit
set_option linter.unusedVariables false

def headL (n : Nat) : List Nat := be4 n ++ le4 (sumL (be4 n))
theorem headL_len (n : Nat) : (headL n).length = 8 := by simp [headL, be4, le4]
theorem frameL_split (body : List Nat) : frameL body = headL body.length ++ (body ++ le4 (sumL body)) := by simp [frameL, headL]
theorem getD_left (a b : List Nat) (i : Nat) (h : i < a.length) : (a ++ b).getD i 0 = a.getD i 0 := by simp [List.getD, List.getElem?_append_left h]
theorem getD_right (a b : List Nat) (i : Nat) : (a ++ b).getD (a.length + i) 0 = b.getD i 0 := by simp [List.getD, List.getElem?_append_right]

/-- A head whose sum does not fit. -/
theorem bad_head (h rest : List Nat) (hl : h.length = 8) (hne : rdle (h.getD 4 0) (h.getD 5 0) (h.getD 6 0) (h.getD 7 0) ≠ sumL (h.take 4)) : frameR (h ++ rest) 0 = ([], 0, 12) := by
  have hr : headR (h ++ rest) = (0, 12) := by
    unfold headR
    rw [if_neg (by simp; omega), getD_left h rest 4 (by omega), getD_left h rest 5 (by omega), getD_left h rest 6 (by omega), getD_left h rest 7 (by omega), List.take_append_of_le_length (by omega), if_pos hne]
  unfold frameR
  rw [List.drop_zero, hr]
  rfl
/-- A head that is right. -/
theorem good_head (n : Nat) (hn : n ≤ 1048576) (rest : List Nat) : headR (headL n ++ rest) = (n, 0) := by
  have hs := sumL_lt (be4 n)
  have ht : (headL n ++ rest).take 4 = be4 n := by simp [headL, be4]
  unfold headR
  rw [if_neg (by simp [headL_len]), ht]
  have e4 : rdle ((headL n ++ rest).getD 4 0) ((headL n ++ rest).getD 5 0) ((headL n ++ rest).getD 6 0) ((headL n ++ rest).getD 7 0) = sumL (be4 n) := by
    simp [headL, be4, le4]
    exact le4_sum _ hs
  have e0 : rdle ((headL n ++ rest).getD 3 0) ((headL n ++ rest).getD 2 0) ((headL n ++ rest).getD 1 0) ((headL n ++ rest).getD 0 0) = n := by
    simp [headL, be4]
    unfold rdle
    omega
  rw [e4, e0, if_neg (by simp), if_neg (by omega)]
/-- A body whose sum does not fit. -/
theorem bad_body (n : Nat) (hn : n ≤ 1048576) (X rest : List Nat) (hX : X.length = n + 4) (hne : rdle (X.getD n 0) (X.getD (n + 1) 0) (X.getD (n + 2) 0) (X.getD (n + 3) 0) ≠ sumL (X.take n)) :
    frameR (headL n ++ (X ++ rest)) 0 = ([], 0, 12) := by
  unfold frameR
  rw [List.drop_zero, good_head n hn]
  simp only [ne_eq, not_true_eq_false, if_false, Nat.zero_add]
  rw [if_neg (by simp [headL_len]; omega)]
  have hd : ∀ i, (headL n ++ (X ++ rest)).drop (8 + i) = (X ++ rest).drop i := by
    intro i
    rw [← headL_len n, List.drop_append]
    simp
  have hd8 : (headL n ++ (X ++ rest)).drop 8 = X ++ rest := by have := hd 0; simpa using this
  have g : ∀ i, i < 4 → ((X ++ rest).drop n).getD i 0 = X.getD (n + i) 0 := by
    intro i hi
    simp [List.getD, List.getElem?_append_left (show n + i < X.length by omega)]
  rw [hd n, hd8, g 0 (by omega), g 1 (by omega), g 2 (by omega), g 3 (by omega), List.take_append_of_le_length (by omega)]
  rw [Nat.add_zero]
  exact if_pos hne

/-- The turned bits, as natural numbers, in range. -/
def inR (N : Nat) (zs : List Int) : List Nat := zs.filterMap fun z => if 0 ≤ z ∧ z < 8 * (N : Int) then some z.toNat else none
theorem turnsI_flips (zs : List Int) : ∀ bs : List Nat, turnsI bs zs = flips bs (inR bs.length zs) := by
  induction zs with
  | nil => intro bs; rfl
  | cons z zs ih =>
    intro bs
    show turnsI (turnI bs z) zs = _
    rw [ih, turnI_len]
    unfold turnI inR
    by_cases h : 0 ≤ z ∧ z < 8 * (bs.length : Int)
    · simp [h, flips]
    · simp [h]
theorem inR_lt (N : Nat) (zs : List Int) : ∀ k ∈ inR N zs, k < 8 * N := by
  intro k hk
  unfold inR at hk
  rw [List.mem_filterMap] at hk
  obtain ⟨z, _, hz⟩ := hk
  split at hz
  · simp at hz; omega
  · simp at hz
theorem inR_len (N : Nat) (zs : List Int) : (inR N zs).length ≤ zs.length := List.length_filterMap_le _ _
/-- Bits ahead of a place, bits behind it. -/
def loB (n : Nat) (l : List Nat) : List Nat := l.filter fun k => decide (k < 8 * n)
def hiB (n : Nat) (l : List Nat) : List Nat := (l.filter fun k => !decide (k < 8 * n)).map fun k => k - 8 * n
theorem flip_left (a b : List Nat) (k : Nat) (h : k < 8 * a.length) : flip (a ++ b) k = flip a k ++ b := by
  unfold flip
  rw [getD_left a b _ (by omega), List.set_append_left _ _ (by omega)]
theorem flip_right (a b : List Nat) (k : Nat) (h : ¬ k < 8 * a.length) : flip (a ++ b) k = a ++ flip b (k - 8 * a.length) := by
  unfold flip
  rw [List.set_append_right _ _ (by omega)]
  have e1 : k / 8 - a.length = (k - 8 * a.length) / 8 := by omega
  have e2 : k % 8 = (k - 8 * a.length) % 8 := by omega
  have e3 : (a ++ b).getD (k / 8) 0 = b.getD ((k - 8 * a.length) / 8) 0 := by
    have := getD_right a b ((k - 8 * a.length) / 8)
    rw [← this]
    congr 1
    omega
  rw [e3, e1, ← e2]
theorem flips_split (l : List Nat) : ∀ (a b : List Nat), flips (a ++ b) l = flips a (loB a.length l) ++ flips b (hiB a.length l) := by
  induction l with
  | nil => intro a b; rfl
  | cons k l ih =>
    intro a b
    show flips (flip (a ++ b) k) l = _
    by_cases h : k < 8 * a.length
    · rw [flip_left a b k h, ih, flip_len]
      simp [loB, hiB, h, flips]
    · rw [flip_right a b k h, ih]
      simp [loB, hiB, h, flips]
theorem loB_len (n : Nat) (l : List Nat) : (loB n l).length ≤ l.length := List.length_filter_le _ _
theorem hiB_len (n : Nat) (l : List Nat) : (hiB n l).length ≤ l.length := by unfold hiB; rw [List.length_map]; exact List.length_filter_le _ _

/-- Bytes with their sum, up to three bits turned over. -/
theorem region3 (data : List Nat) (hd : Bys data) (hl : data.length ≤ 1048576) (l : List Nat) (hl3 : l.length ≤ 3) (hk : ∀ k ∈ l, k < 8 * (data.length + 4)) (X : List Nat) (hX : X = flips (data ++ le4 (sumL data)) l) (hne : X ≠ data ++ le4 (sumL data)) :
    rdle (X.getD data.length 0) (X.getD (data.length + 1) 0) (X.getD (data.length + 2) 0) (X.getD (data.length + 3) 0) ≠ sumL (X.take data.length) := by
  have hlen : (data ++ le4 (sumL data)).length = data.length + 4 := by simp [le4]
  have hx : X = xorL (data ++ le4 (sumL data)) (flips (List.replicate (data.length + 4) 0) l) := by rw [hX, flips_eq, hlen]
  refine detectX data _ hd (flips_bys l _ (zeros_bys _)) (by rw [flips_len]; simp) ?_ X hx
  intro he
  have := three (data.length + 4) (by omega) l hl3 hk he
  rw [this, ← hlen, xorL_zero] at hx
  exact hne hx

/-- A frame with up to three bits turned over is no frame. -/
theorem frame3 (body : List Nat) (hb : Bys body) (hl : body.length ≤ 1048576) (zs : List Int) (h3 : zs.length = 3) (hne : turnsI (frameL body) zs ≠ frameL body) (rest : List Nat) :
    frameR (turnsI (frameL body) zs ++ rest) 0 = ([], 0, 12) := by
  have hlen : (frameL body).length = body.length + 12 := by simp [frameL, be4, le4]
  obtain ⟨l, hl'⟩ : ∃ l, l = inR (frameL body).length zs := ⟨_, rfl⟩
  have hl3 : l.length ≤ 3 := by rw [hl', ← h3]; exact inR_len _ _
  have hlt : ∀ k ∈ l, k < 8 * (body.length + 12) := by rw [hl', ← hlen]; exact inR_lt _ _
  rw [turnsI_flips, ← hl', frameL_split] at hne ⊢
  rw [flips_split, headL_len] at hne ⊢
  rw [List.append_assoc]
  by_cases hh : flips (headL body.length) (loB 8 l) = headL body.length
  · rw [hh] at hne ⊢
    have hne2 : flips (body ++ le4 (sumL body)) (hiB 8 l) ≠ body ++ le4 (sumL body) := fun e => hne (by rw [e])
    refine bad_body body.length hl _ rest (by rw [flips_len]; simp [le4]) ?_
    refine region3 body hb hl (hiB 8 l) (Nat.le_trans (hiB_len 8 l) hl3) ?_ _ rfl hne2
    intro k hk
    unfold hiB at hk
    rw [List.mem_map] at hk
    obtain ⟨q, hq, rfl⟩ := hk
    rw [List.mem_filter] at hq
    have := hlt q hq.1
    simp at hq
    omega
  · have hd : (be4 body.length).length = 4 := rfl
    refine bad_head _ _ (by rw [flips_len, headL_len]) ?_
    have := region3 (be4 body.length) (be4_bys _ (by omega)) (by rw [hd]; omega) (loB 8 l) (Nat.le_trans (loB_len 8 l) hl3) (by
      intro k hk
      unfold loB at hk
      rw [List.mem_filter] at hk
      simp at hk
      rw [hd]
      omega) (flips (headL body.length) (loB 8 l)) rfl hh
    rw [hd] at this
    exact this

theorem frameL_len (body : List Nat) : (frameL body).length = body.length + 12 := by simp [frameL, be4, le4]
theorem own_addr {w : World} {B : Nat} {a : Option Addr} {m c : Nat} {xs : List Nat} (h : Own w B (.slice a m c) m xs) (hm : 0 < m) : ∃ g, a = some ⟨g, 0, none⟩ ∧ B ≤ g ∧ g < w.heap.size := by
  rcases h.2.2 with ⟨h1, h2⟩ | ⟨g, cap, cur, h3, h4, h5, _⟩
  · omega
  · simp only [Value.slice.injEq] at h3
    exact ⟨g, h3.1, h4, (Array.getElem?_eq_some_iff.1 h5).1⟩

set_option maxRecDepth 100000 in
set_option maxHeartbeats 2000000 in
theorem tells_walk {vb vr : Value} {body rest : List Nat} {w : World} (i j k : Int) (hb : Rd w vb body) (hr : Rd w vr rest) (ht : Tab w) (hi : -9223372036854775808 ≤ i ∧ i ≤ 9223372036854775807) (hj : -9223372036854775808 ≤ j ∧ j ≤ 9223372036854775807) (hk : -9223372036854775808 ≤ k ∧ k ≤ 9223372036854775807) (hlr : rest.length ≤ 1048576) :
    Calls Tryd.prog 5 #[vb, .int .i64 i, .int .i64 j, .int .i64 k, vr] w fun e w' => e = .returned (.bool true) ∧ Below w.heap.size w w' := by
  obtain ⟨a, n, cap, rfl⟩ := rd_slice hb
  obtain ⟨hn, hle, hm, hl48⟩ := rd_lens hb
  obtain ⟨ar, nr, capr, rfl⟩ := rd_slice hr
  have HN : Hid (n = body.length) := hn
  have hbyb := hb.1
  have hbyr := hr.1
  clear hn hm
  by_cases hbig : (1048576 : Int) < (n : Int)
  · go_enter Tryd.func5, Tryd.ntmps5
    go_wp2_with fail
    refine (started_any ht).mono ?_
    rintro e w1 ⟨rfl, hb1⟩
    go_wp2
    go_ret
    exact ⟨rfl, hb1⟩
  · have hsm : (n : Int) ≤ 1048576 := by omega
    clear hbig
    go_enter Tryd.func5, Tryd.ntmps5
    go_wp2_with fail
    refine (frame_ok hb ht (by rw [← HN.out]; omega)).mono ?_
    rintro e w1 ⟨a1, m1, c1, rfl, own1, hb1⟩
    have hm1 : m1 = n + 12 := by rw [own1.1, frameL_len, ← HN.out]
    subst hm1
    obtain ⟨g, rfl, hg1, hg2⟩ := own_addr own1 (by omega)
    have hs1 := hb1.size
    have em : ((n : Int) + 12 != (n : Int) + 12) = false := by simp
    go_wp2_with fail
    refine (num_any _ _).mono ?_
    rintro e w2 ⟨rfl, rfl⟩
    go_wp2_with fail
    have A2 := (Below.refl w2.heap.size w2).alloc (Nat.le_refl _) (.cells #[.int .i64 i, .int .i64 j, .int .i64 k] 3)
    have hcq : ∀ q, q < 3 → (w2.alloc (.cells #[.int .i64 i, .int .i64 j, .int .i64 k] 3)).cell? ⟨w2.heap.size, q, none⟩ = some (.int .i64 ([i, j, k].getD q 0)) := by
      intro q hq
      have h1 := news_new w2 [.int .i64 i, .int .i64 j, .int .i64 k] 3 q (.int .i64 ([i, j, k].getD q 0)) (by
        match q, hq with
        | 0, _ => rfl
        | 1, _ => rfl
        | 2, _ => rfl)
      have e : (⟨w2.heap.size, 0, none⟩ : Addr).add q = ⟨w2.heap.size, q, none⟩ := by unfold Addr.add; split <;> simp_all
      rwa [e] at h1
    refine (turned_any (zs := [i, j, k]) (own1.later A2) (frameL_bys _ hbyb (by rw [← HN.out]; omega)) hg1 (by simp; omega) (by omega) rfl (by
        intro q hq
        match q, hq with
        | 0, _ => exact hi
        | 1, _ => exact hj
        | 2, _ => exact hk) (by omega) hcq).mono ?_
    rintro e w3 ⟨rfl, own3, hb3⟩
    have hb3' := (hb1.trans (A2.mono hs1)).trans hb3
    have hs3 := hb3'.size
    have ht3 := ht.later hb3'
    have r3 := own3.rd (turnsI_bys _ _ (frameL_bys _ hbyb (by rw [← HN.out]; omega))) (by omega)
    have hr3 := hr.later hb3'
    clear A2 hcq hb3 own1 hb1 own3
    obtain ⟨F, hF⟩ : ∃ F, F = turnsI (frameL body) [i, j, k] := ⟨_, rfl⟩
    rw [← hF] at r3 ⊢
    have HF : Hid (F = turnsI (frameL body) [i, j, k]) := hF
    clear hF
    by_cases hD : frameL body = F
    · have hd : decide (frameL body = F) = true := by simpa using hD
      rw [hd]
      clear hd
      go_wp2_with fail
      refine (started_any ht3).mono ?_
      rintro e w4 ⟨rfl, hb4⟩
      have hb4' := hb3'.trans (hb4.mono hs3)
      clear hb4
      go_wp2
      go_ret
      exact ⟨rfl, hb4'⟩
    · have hd : decide (frameL body = F) = false := by simpa using hD
      rw [hd]
      clear hd
      have hR : frameR (F ++ rest) 0 = ([], 0, 12) := by
        rw [HF.out]
        exact frame3 body hbyb (by rw [← HN.out]; omega) [i, j, k] rfl (by rw [← HF.out]; exact fun e => hD e.symm) rest
      have HR : Hid (frameR (F ++ rest) 0 = ([], 0, 12)) := hR
      have hFl : F.length = n + 12 := by rw [HF.out, turnsI_len, frameL_len, ← HN.out]
      have HFL : Hid (F.length = n + 12) := hFl
      clear hR hD hFl
      go_wp2_with fail
      have A4 := (Below.refl w3.heap.size w3).alloc (Nat.le_refl _) (.cells #[.slice (some ⟨g, 0, none⟩) (n + 12) c1, .slice ar nr capr] 22)
      have hp := rdp_two r3 hr3 _ rfl
      have hbyj := flat_bys hp
      have ej : [F, rest].flatten = F ++ rest := by simp
      have hlj : [F, rest].flatten.length ≤ 140737488355328 := by rw [ej, List.length_append, HFL.out]; omega
      have HLJ : Hid ((F ++ rest).length ≤ 140737488355328) := by unfold Hid; rw [← ej]; exact hlj
      refine (join_any hp hlj).mono ?_
      rintro e w5 ⟨a5, m5, c5, rfl, own5, hb5⟩
      rw [ej] at own5 hbyj
      have r5 := own5.rd hbyj (by rw [own5.1]; have := HLJ.out; omega)
      have hb4 := hb3'.trans (A4.mono hs3)
      have hb5' := hb4.trans (hb5.mono hb4.size)
      have ht5 := ht.later hb5'
      have hs5 := hb5'.size
      clear A4 hp hlj hbyj ej own5 hb5 hb4 hb3' r3 hr3
      go_wp2_with fail
      refine (readFrame_at r5 ht5 0 0 rfl (Nat.zero_le _) HLJ.out HR.out).mono ?_
      rintro e w6 ⟨a6, m6, c6, rfl, own6, hb6⟩
      have hm6 : m6 = 0 := own6.1
      subst hm6
      have hb6' := hb5'.trans (hb6.mono hs5)
      have ht6 := ht.later hb6'
      have hs6 := hb6'.size
      clear own6 hb6 r5 hb5' ht5
      go_wp2_with fail
      refine (started_any ht6).mono ?_
      rintro e w7 ⟨rfl, hb7⟩
      have hb7' := hb6'.trans (hb7.mono hs6)
      clear hb7
      go_wp2_with fail
      refine (num_any _ _).mono ?_
      rintro e w8 ⟨rfl, rfl⟩
      go_wp2
      go_ret
      exact ⟨rfl, hb7'⟩

end Go.Proofs.YtbfeecnhmlcfaaaDoor
