import Derived.Test.YtbfeecnhmlcfaaaDoorTells
import Derived.Deep.DeepCutAuto
import Derived.Deep.CutBlock
import Derived.OpenShut
namespace Go.Proofs.YtbfeecnhmlcfaaaDoor
open Go.RowKit
set_option linter.unusedVariables false

/-- The bits that a burst turns over: from a place on, below an end, where the pattern has a one. -/
def burst (p hi pat : Nat) : Nat → List Nat
  | 0 => []
  | t + 1 => burst p hi pat t ++ (if p + t < hi ∧ pat / 2 ^ t % 2 = 1 then [p + t] else [])
def burstW (p hi pat : Nat) : Nat → Nat
  | 0 => 0
  | t + 1 => burstW p hi pat t ^^^ (if p + t < hi ∧ pat / 2 ^ t % 2 = 1 then 2 ^ t else 0)
theorem flips_append (bs l m : List Nat) : flips bs (l ++ m) = flips (flips bs l) m := by simp [flips, List.foldl_append]
theorem burst_err (N p hi pat : Nat) (hhi : hi ≤ 8 * N) (hp : p < hi) : ∀ t, errF (flips (List.replicate N 0) (burst p hi pat t)) = Tn (8 * N - p) (burstW p hi pat t) := by
  intro t
  induction t with
  | zero => simp [burst, burstW, flips, errF_zeros, Tn_zero]
  | succ t ih =>
    simp only [burst, burstW]
    by_cases h : p + t < hi ∧ pat / 2 ^ t % 2 = 1
    · rw [if_pos h, if_pos h, flips_append, Tn_xor, ← ih]
      show errF (flip (flips (List.replicate N 0) (burst p hi pat t)) (p + t)) = _
      have hl : (flips (List.replicate N 0) (burst p hi pat t)).length = N := by rw [flips_len]; simp
      rw [errF_flip _ _ (by rw [hl]; omega), hl]
      congr 1
      rw [show 8 * N - p = (8 * N - (p + t)) + t by omega, Tn_add]
      have := Tn_mul t 1
      rw [Nat.mul_one] at this
      rw [this]
    · rw [if_neg h, if_neg h, List.append_nil, Nat.xor_zero]
      exact ih
theorem burstW_lt (p hi pat : Nat) : ∀ t, burstW p hi pat t < 2 ^ t := by
  intro t
  induction t with
  | zero => simp [burstW]
  | succ t ih =>
    simp only [burstW]
    have h1 : burstW p hi pat t < 2 ^ (t + 1) := Nat.lt_trans ih (Nat.pow_lt_pow_right (by omega) (by omega))
    have h2 : (if p + t < hi ∧ pat / 2 ^ t % 2 = 1 then 2 ^ t else 0) < 2 ^ (t + 1) := by
      have := Nat.two_pow_pos t
      split
      · exact Nat.pow_lt_pow_right (by omega) (by omega)
      · rw [Nat.pow_succ]; omega
    exact Nat.xor_lt_two_pow h1 h2
theorem burst_nil (p hi pat : Nat) : ∀ t, burstW p hi pat t = 0 → burst p hi pat t = [] := by
  intro t
  induction t with
  | zero => intro _; rfl
  | succ t ih =>
    intro h
    simp only [burst, burstW] at h ⊢
    have hlt := burstW_lt p hi pat t
    have h2 := xor_zero h
    by_cases hc : p + t < hi ∧ pat / 2 ^ t % 2 = 1
    · rw [if_pos hc] at h2; omega
    · rw [if_neg hc] at h2 ⊢
      rw [ih h2]
      rfl
theorem burst_lt (p hi pat : Nat) : ∀ t, ∀ k ∈ burst p hi pat t, p ≤ k ∧ k < hi := by
  intro t
  induction t with
  | zero => intro k hk; simp [burst] at hk
  | succ t ih =>
    intro k hk
    simp only [burst] at hk
    rcases List.mem_append.1 hk with h | h
    · exact ih k h
    · split at h
      · rename_i hc
        simp at h
        omega
      · simp at h
theorem burst_shift (p hi pat d : Nat) : ∀ t, burst (d + p) (d + hi) pat t = (burst p hi pat t).map (fun k => d + k) := by
  intro t
  induction t with
  | zero => rfl
  | succ t ih =>
    simp only [burst]
    rw [ih, List.map_append]
    congr 1
    by_cases hc : p + t < hi ∧ pat / 2 ^ t % 2 = 1
    · rw [if_pos hc, if_pos ⟨by omega, hc.2⟩]
      simp
      omega
    · rw [if_neg hc, if_neg (fun h => hc ⟨by omega, h.2⟩)]
      rfl
theorem flips_right (l : List Nat) : ∀ (a b : List Nat), flips (a ++ b) (l.map (fun k => 8 * a.length + k)) = a ++ flips b l := by
  induction l with
  | nil => intro a b; rfl
  | cons k l ih =>
    intro a b
    show flips (flip (a ++ b) (8 * a.length + k)) _ = _
    rw [flip_right a b _ (by omega), show 8 * a.length + k - 8 * a.length = k by omega, ih]
    rfl
theorem flips_left (l : List Nat) : ∀ (a b : List Nat), (∀ k ∈ l, k < 8 * a.length) → flips (a ++ b) l = flips a l ++ b := by
  induction l with
  | nil => intro a b _; rfl
  | cons k l ih =>
    intro a b h
    show flips (flip (a ++ b) k) l = _
    rw [flip_left a b k (h k (by simp)), ih (flip a k) b (fun q hq => by rw [flip_len]; exact h q (by simp [hq]))]
    rfl
/-- Bytes with their sum, a burst turned over. -/
theorem regionB (data : List Nat) (hd : Bys data) (p pat : Nat) (hp : p < 8 * (data.length + 4)) (X : List Nat) (hX : X = flips (data ++ le4 (sumL data)) (burst p (8 * (data.length + 4)) pat 32)) (hne : X ≠ data ++ le4 (sumL data)) :
    rdle (X.getD data.length 0) (X.getD (data.length + 1) 0) (X.getD (data.length + 2) 0) (X.getD (data.length + 3) 0) ≠ sumL (X.take data.length) := by
  have hlen : (data ++ le4 (sumL data)).length = data.length + 4 := by simp [le4]
  have hx : X = xorL (data ++ le4 (sumL data)) (flips (List.replicate (data.length + 4) 0) (burst p (8 * (data.length + 4)) pat 32)) := by rw [hX, flips_eq, hlen]
  refine detectX data _ hd (flips_bys _ _ (zeros_bys _)) (by rw [flips_len]; simp) ?_ X hx
  intro he
  rw [burst_err _ _ _ _ (Nat.le_refl _) hp] at he
  have hw : burstW p (8 * (data.length + 4)) pat 32 = 0 := by
    by_cases h : burstW p (8 * (data.length + 4)) pat 32 = 0
    · exact h
    · exact absurd he (Tn_ne _ _ (burstW_lt _ _ _ 32) h)
  rw [burst_nil _ _ _ _ hw] at hX
  exact hne hX
/-- A frame with a burst turned over in the body and its sum. -/
theorem frameB_body (body : List Nat) (hb : Bys body) (hl : body.length ≤ 1048576) (p pat : Nat) (h64 : 64 ≤ p) (hp : p < 8 * (body.length + 12)) (F : List Nat) (hF : F = flips (frameL body) (burst p (8 * (body.length + 12)) pat 32)) (hne : F ≠ frameL body) (rest : List Nat) :
    frameR (F ++ rest) 0 = ([], 0, 12) := by
  have e : burst p (8 * (body.length + 12)) pat 32 = (burst (p - 64) (8 * (body.length + 4)) pat 32).map (fun k => 8 * (headL body.length).length + k) := by
    rw [headL_len]
    have := burst_shift (p - 64) (8 * (body.length + 4)) pat 64 32
    rw [show 64 + (p - 64) = p by omega, show 64 + 8 * (body.length + 4) = 8 * (body.length + 12) by omega] at this
    exact this
  rw [e, frameL_split, flips_right] at hF
  rw [hF, List.append_assoc]
  rw [hF, frameL_split] at hne
  refine bad_body body.length hl _ rest (by rw [flips_len]; simp [le4]) ?_
  exact regionB body hb (p - 64) pat (by omega) _ rfl (fun e => hne (by rw [e]))
/-- A frame with a burst turned over in the length and its sum. -/
theorem frameB_head (body : List Nat) (hb : Bys body) (hl : body.length ≤ 1048576) (p pat : Nat) (hp : p < 64) (F : List Nat) (hF : F = flips (frameL body) (burst p 64 pat 32)) (hne : F ≠ frameL body) (rest : List Nat) :
    frameR (F ++ rest) 0 = ([], 0, 12) := by
  have hd : (be4 body.length).length = 4 := rfl
  rw [frameL_split, flips_left _ _ _ (fun k hk => by rw [headL_len]; exact (burst_lt p 64 pat 32 k hk).2)] at hF
  rw [hF, List.append_assoc]
  rw [hF, frameL_split] at hne
  refine bad_head _ _ (by rw [flips_len, headL_len]) ?_
  have := regionB (be4 body.length) (be4_bys _ (by omega)) p pat (by rw [hd]; omega) (flips (headL body.length) (burst p 64 pat 32)) (by rw [hd]; rfl) (fun e => hne (by rw [e]; rfl))
  rw [hd] at this
  exact this

theorem xor_bit (y q : Nat) (hyl : y < 256) : bits .xor .u8 (y : Int) (2 ^ (q % 8) % 256) = ((y ^^^ 2 ^ (q % 8) : Nat) : Int) := by
  have h2 : 2 ^ (q % 8) < 256 := Nat.lt_of_lt_of_le (Nat.pow_lt_pow_right (by omega) (show q % 8 < 8 by omega)) (by decide)
  have h3 : ((2 : Int) ^ (q % 8)) = ((2 ^ (q % 8) : Nat) : Int) := by simp
  rw [h3]
  generalize 2 ^ (q % 8) = t at h2
  rw [show (t : Int) % 256 = (t : Int) by omega]
  exact u8_xor_nat y _ hyl h2
theorem bitAt (pat t : Nat) (hp : pat < 4294967296) : (bits .and .u32 ((pat : Int) / 2 ^ t) 1 == 1) = decide (pat / 2 ^ t % 2 = 1) := by
  have h1 : ((pat : Int) / 2 ^ t) = ((pat / 2 ^ t : Nat) : Int) := by simp
  have h2 : pat / 2 ^ t < 4294967296 := Nat.lt_of_le_of_lt (Nat.div_le_self _ _) hp
  rw [h1]
  have h3 := u32_and_nat (pat / 2 ^ t) 1 h2 (by omega)
  rw [nat_mask1] at h3
  rw [show ((1 : Int)) = ((1 : Nat) : Int) from rfl, h3]
  have : pat / 2 ^ t % 2 = 0 ∨ pat / 2 ^ t % 2 = 1 := by omega
  rcases this with h | h <;> rw [h] <;> rfl

set_option maxRecDepth 100000 in
set_option maxHeartbeats 2000000 in
theorem bursts_walk {vb vr : Value} {body rest : List Nat} {w : World} (p : Int) (pat : Nat) (low : Bool) (hb : Rd w vb body) (hr : Rd w vr rest) (ht : Tab w) (hi : -9223372036854775808 ≤ p ∧ p ≤ 9223372036854775807) (hpat : pat < 4294967296) (hlr : rest.length ≤ 1048576) :
    Calls Tryd.prog 3 #[vb, .int .i64 p, .int .u32 (pat : Int), .bool low, vr] w fun e w' => e = .returned (.bool true) ∧ Below w.heap.size w w' := by
  obtain ⟨a, n, cap, rfl⟩ := rd_slice hb
  obtain ⟨hn, hle, hm, hl48⟩ := rd_lens hb
  obtain ⟨ar, nr, capr, rfl⟩ := rd_slice hr
  have HN : Hid (n = body.length) := hn
  have hbyb := hb.1
  have hbyr := hr.1
  clear hn hm
  by_cases hbig : (1048576 : Int) < (n : Int)
  · go_enter Tryd.func3, Tryd.ntmps3
    go_wp2_with fail
    refine (started_any ht).mono ?_
    rintro e w1 ⟨rfl, hb1⟩
    go_wp2
    go_ret
    exact ⟨rfl, hb1⟩
  · have hsm : (n : Int) ≤ 1048576 := by omega
    clear hbig
    go_enter Tryd.func3, Tryd.ntmps3
    go_wp2_with fail
    refine (frame_ok hb ht (by rw [← HN.out]; omega)).mono ?_
    rintro e w1 ⟨a1, m1, c1, rfl, own1, hb1⟩
    have hm1 : m1 = n + 12 := by rw [own1.1, frameL_len, ← HN.out]
    subst hm1
    obtain ⟨g, rfl, hg1, hg2⟩ := own_addr own1 (by omega)
    have hs1 := hb1.size
    have em : ((n : Int) + 12 != (n : Int) + 12) = false := by simp
    go_wp2_with fail
    refine (num_any _ _).mono ?_
    rintro e w2 ⟨rfl, rfl⟩
    obtain ⟨LO, HI, hlh⟩ : ∃ LO HI : Nat, (low = true ∧ LO = 0 ∧ HI = 64) ∨ (low = false ∧ LO = 64 ∧ HI = 8 * (n + 12)) := by
      cases low
      · exact ⟨64, 8 * (n + 12), .inr ⟨rfl, rfl, rfl⟩⟩
      · exact ⟨0, 64, .inl ⟨rfl, rfl, rfl⟩⟩
    have hHI : HI ≤ 8 * (n + 12) := by omega
    have HLH : Hid ((low = true ∧ LO = 0 ∧ HI = 64) ∨ (low = false ∧ LO = 64 ∧ HI = 8 * (n + 12))) := hlh
    clear hlh
    go_upto_if 44 with fail
    go_cut [13, 14] (fun lo hi wx => lo = .int .i64 (LO : Int) ∧ hi = .int .i64 (HI : Int) ∧ wx = w2)
    case first =>
      rcases HLH.out with ⟨rfl, rfl, rfl⟩ | ⟨rfl, rfl, rfl⟩
      · go_wp2
        go_meet
        exact ⟨rfl, rfl, rfl⟩
      · go_wp2
        go_meet
        exact ⟨rfl, by go_num, rfl⟩
    case rest =>
    obtain ⟨rfl, rfl, rfl⟩ := hcut
    have r1 := own1.rd (frameL_bys _ hbyb (by rw [← HN.out]; omega)) (by omega)
    have ht1 := ht.later hb1
    have hr1 := hr.later hb1
    by_cases hout : p < (LO : Int) ∨ (HI : Int) ≤ p
    · by_cases hl : p < (LO : Int)
      · have hd : decide (p < (LO : Int)) = true := by simpa using hl
        clear hout
        go_wp2_with fail
        refine (started_any ht1).mono ?_
        rintro e w3 ⟨rfl, hb3⟩
        have hb3' := hb1.trans (hb3.mono hs1)
        clear hb3
        go_wp2
        go_ret
        exact ⟨rfl, hb3'⟩
      · have hl2 : (LO : Int) ≤ p := by omega
        have hh2 : (HI : Int) ≤ p := by omega
        have hd : decide (p < (LO : Int)) = false := by simpa using hl
        clear hout hl
        go_wp2_with fail
        refine (started_any ht1).mono ?_
        rintro e w3 ⟨rfl, hb3⟩
        have hb3' := hb1.trans (hb3.mono hs1)
        clear hb3
        go_wp2
        go_ret
        exact ⟨rfl, hb3'⟩
    · have hl2 : (LO : Int) ≤ p := by omega
      have hh2 : p < (HI : Int) := by omega
      have hd : decide (p < (LO : Int)) = false := by simp; omega
      have hd2 : decide ((HI : Int) ≤ p) = false := by simp; omega
      clear hout
      obtain ⟨P, rfl⟩ := Int.eq_ofNat_of_zero_le (show 0 ≤ p by omega)
      go_wp2_with fail
      refine (join_any (RdP.one r1) (by simp; rw [← own1.1]; omega)).mono ?_
      rintro e w3 ⟨a3, m3, c3, rfl, own3, hb3⟩
      have A1 := (Below.refl wc.heap.size wc).alloc (Nat.le_refl _) (.cells #[.slice (some ⟨g, 0, none⟩) (n + 12) c1] 22)
      have e2 : [frameL body].flatten = frameL body := by simp
      rw [e2] at own3
      have ownw3 : Own w3 wc.heap.size (.slice a3 m3 c3) m3 (frameL body) := own3.mono (by simp)
      have hbc := A1.trans (hb3.mono A1.size)
      have ownf3 := own1.later hbc
      have hb3' := hb1.trans (hbc.mono hs1)
      obtain ⟨F, hF⟩ : ∃ F, F = frameL body := ⟨_, rfl⟩
      rw [← hF] at ownw3 ownf3
      have HF : Hid (F = frameL body) := hF
      have hFb : Bys F := by rw [hF]; exact frameL_bys _ hbyb (by rw [← HN.out]; omega)
      have HFL : Hid (F.length = n + 12) := by unfold Hid; rw [hF, frameL_len, ← HN.out]
      have HM3 : Hid (m3 = n + 12) := by unfold Hid; rw [ownw3.1]; exact HFL.out
      have HFB : Hid (Bys F) := hFb
      clear own3 hb3 A1 hbc own1 e2 hF r1 hFb
      go_wp2
      go_loopw [16] (fun i wr => ∃ t, t ≤ 32 ∧ i = .int .i64 ((t : Nat) : Int) ∧ Own wr w.heap.size (.slice (some ⟨g, 0, none⟩) (n + 12) c1) (n + 12) (flips F (burst P HI pat t)) ∧ Own wr wc.heap.size (.slice a3 m3 c3) m3 F ∧ Below w.heap.size w wr) (fun i _ => 32 - (intOf i).toNat)
      case atStart => exact ⟨0, by omega, rfl, ownf3, ownw3, hb3'⟩
      case round =>
        obtain ⟨t, htl, rfl, ownk, ownw, hbk⟩ := hrel
        by_cases hlt : t < 32
        · have hlt2 : (t : Int) < 32 := by omega
          have hbit := bitAt pat t hpat
          obtain ⟨Y, hY⟩ : ∃ Y, Y = flips F (burst P HI pat t) := ⟨_, rfl⟩
          rw [← hY] at ownk
          have HY : Hid (Y = flips F (burst P HI pat t)) := hY
          have HYL : Hid (Y.length = n + 12) := by unfold Hid; rw [hY, flips_len, HFL.out]
          have hYb : Bys Y := by rw [hY]; exact flips_bys _ _ HFB.out
          clear hY
          by_cases hc : P + t < HI ∧ pat / 2 ^ t % 2 = 1
          · have HB : Hid (burst P HI pat (t + 1) = burst P HI pat t ++ [P + t]) := by unfold Hid; simp only [burst]; rw [if_pos hc]
            have hc1 : (P : Int) + (t : Int) < (HI : Int) := by have := hc.1; omega
            have hcb : (bits .and .u32 ((pat : Int) / 2 ^ t) 1 == 1) = true := by rw [hbit]; simpa using hc.2
            have HBIT : Hid (pat / 2 ^ t % 2 = 1) := hc.2
            clear hc hbit
            have hjm : (P + t) / 8 < n + 12 := by omega
            have hcell : wr.cell? ⟨g, (P + t) / 8, none⟩ = some (.int .u8 ((Y.getD ((P + t) / 8) 0 : Nat) : Int)) := by
              rw [ownk.2.cellAt ((P + t) / 8) (by omega)]
              have := HYL.out
              simp [bv, List.getElem?_eq_getElem (show (P + t) / 8 < Y.length by omega)]
            have hyl := hYb.get ((P + t) / 8)
            obtain ⟨y, hy⟩ : ∃ y, y = Y.getD ((P + t) / 8) 0 := ⟨_, rfl⟩
            rw [← hy] at hcell hyl
            have HYY : Hid (y = Y.getD ((P + t) / 8) 0) := hy
            clear hy
            have hfz := ownk.2.frozenAt ((P + t) / 8)
            have hq1 : (0 : Int) ≤ ((P : Int) + (t : Int)) / 8 := by omega
            have hq2 : ((P : Int) + (t : Int)) / 8 < (n : Int) + 12 := by omega
            have HOWN : Hid (Own wr w.heap.size (.slice (some ⟨g, 0, none⟩) (n + 12) c1) (n + 12) Y) := ownk
            have HOWW : Hid (Own wr wc.heap.size (.slice a3 m3 c3) m3 F) := ownw
            have HBK : Hid (Below w.heap.size w wr) := hbk
            clear ownk ownw hbk
            go_wp2
            go_region
            go_wp2
            go_roundw
            case rel =>
              have hval : bits .xor .u8 (y : Int) (2 ^ ((P + t) % 8) % 256) = ((y ^^^ 2 ^ ((P + t) % 8) : Nat) : Int) := xor_bit y (P + t) hyl
              have st := HOWN.out.2.stored ((P + t) / 8) (.int .u8 (bits .xor .u8 (y : Int) (2 ^ ((P + t) % 8) % 256)))
              refine ⟨t + 1, by omega, by go_num, ?_, ?_, ?_⟩
              · rw [HB.out, flips_append, ← HY.out]
                have hfl : flips Y [P + t] = Y.set ((P + t) / 8) (y ^^^ 2 ^ ((P + t) % 8)) := by
                  show flip Y (P + t) = _
                  unfold flip
                  rw [← HYY.out]
                rw [hfl]
                refine ⟨by rw [List.length_set, HYL.out], ?_⟩
                have := st.1
                rw [hval] at this
                have e : bv (Y.set ((P + t) / 8) (y ^^^ 2 ^ ((P + t) % 8))) = (bv Y).set ((P + t) / 8) (.int .u8 ((y ^^^ 2 ^ ((P + t) % 8) : Nat) : Int)) := by
                  simp [bv, List.map_set]
                rw [e, hval]
                exact this
              · exact ⟨HOWW.out.1, ownsRow_setCell_below HOWW.out.2 (by exact hg2) _⟩
              · exact (HBK.out.setCell (p := ⟨g, (P + t) / 8, none⟩) hg1 _).drew
            case measure => simp [intOf]; omega
          · have HB : Hid (burst P HI pat (t + 1) = burst P HI pat t) := by unfold Hid; simp only [burst]; rw [if_neg hc, List.append_nil]
            by_cases hc1 : P + t < HI
            · have hc2 : (P : Int) + (t : Int) < (HI : Int) := by omega
              have hcb : (bits .and .u32 ((pat : Int) / 2 ^ t) 1 == 1) = false := by
                rw [hbit]
                have : ¬ pat / 2 ^ t % 2 = 1 := fun h => hc ⟨hc1, h⟩
                simpa using this
              clear hc hbit
              go_wp2
              go_roundw
              case rel => exact ⟨t + 1, by omega, by go_num, by rw [HB.out, ← HY.out]; exact ownk, ownw, hbk⟩
              case measure => simp [intOf]; omega
            · have hc2 : (HI : Int) ≤ (P : Int) + (t : Int) := by omega
              have hcd : decide ((P : Int) + (t : Int) < (HI : Int)) = false := by simp; omega
              clear hc hbit
              go_wp2
              go_roundw
              case rel => exact ⟨t + 1, by omega, by go_num, by rw [HB.out, ← HY.out]; exact ownk, ownw, hbk⟩
              case measure => simp [intOf]; omega
        · have hge : (32 : Int) ≤ (t : Int) := by omega
          obtain rfl : t = 32 := by omega
          obtain ⟨Y, hY⟩ : ∃ Y, Y = flips F (burst P HI pat 32) := ⟨_, rfl⟩
          rw [← hY] at ownk
          have HY : Hid (Y = flips F (burst P HI pat 32)) := hY
          have hYb : Bys Y := by rw [hY]; exact flips_bys _ _ HFB.out
          have HYL : Hid (Y.length = n + 12) := by unfold Hid; rw [hY, flips_len, HFL.out]
          clear hY
          have rw_ := ownw.rd HFB.out (by rw [HM3.out]; omega)
          have rf := ownk.rd hYb (by omega)
          have htk := ht.later hbk
          have hsk := hbk.size
          have hrk := hr.later hbk
          clear ownk ownw
          go_wp2_with fail
          refine (same_any rw_ rf).mono ?_
          rintro e w6 ⟨rfl, rfl⟩
          by_cases hD : F = Y
          · have hd : decide (F = Y) = true := by simpa using hD
            rw [hd]
            clear hd
            go_wp2_with fail
            refine (started_any htk).mono ?_
            rintro e w7 ⟨rfl, hb7⟩
            have hb7' := hbk.trans (hb7.mono hsk)
            clear hb7
            go_wp2
            go_ret
            exact ⟨rfl, hb7'⟩
          · have hd : decide (F = Y) = false := by simpa using hD
            rw [hd]
            clear hd
            have HR : Hid (frameR (Y ++ rest) 0 = ([], 0, 12)) := by
              unfold Hid
              have hne : Y ≠ frameL body := by rw [← HF.out]; exact fun e => hD e.symm
              have hYe := HY.out
              rw [HF.out] at hYe
              rcases HLH.out with ⟨_, hLO, hHIe⟩ | ⟨_, hLO, hHIe⟩
              · rw [hHIe] at hYe
                exact frameB_head body hbyb (by rw [← HN.out]; omega) P pat (by omega) Y hYe hne rest
              · rw [hHIe, HN.out] at hYe
                exact frameB_body body hbyb (by rw [← HN.out]; omega) P pat (by omega) (by rw [← HN.out]; omega) Y hYe hne rest
            clear hD
            go_wp2_with fail
            have A4 := (Below.refl w6.heap.size w6).alloc (Nat.le_refl _) (.cells #[.slice (some ⟨g, 0, none⟩) (n + 12) c1, .slice ar nr capr] 22)
            have hp := rdp_two rf hrk _ rfl
            have hbyj := flat_bys hp
            have ej : [Y, rest].flatten = Y ++ rest := by simp
            have hlj : [Y, rest].flatten.length ≤ 140737488355328 := by rw [ej, List.length_append, HYL.out]; omega
            have HLJ : Hid ((Y ++ rest).length ≤ 140737488355328) := by unfold Hid; rw [← ej]; exact hlj
            refine (join_any hp hlj).mono ?_
            rintro e w8 ⟨a5, m5, c5, rfl, own5, hb5⟩
            rw [ej] at own5 hbyj
            have r5 := own5.rd hbyj (by rw [own5.1]; have := HLJ.out; omega)
            have hb4 := hbk.trans (A4.mono hsk)
            have hb5' := hb4.trans (hb5.mono hb4.size)
            have ht5 := ht.later hb5'
            have hs5 := hb5'.size
            clear A4 hp hlj hbyj ej own5 hb5 hb4 hbk rf hrk htk rw_
            go_wp2_with fail
            refine (readFrame_at r5 ht5 0 0 rfl (Nat.zero_le _) HLJ.out HR.out).mono ?_
            rintro e w9 ⟨a6, m6, c6, rfl, own6, hb6⟩
            have hm6 : m6 = 0 := own6.1
            subst hm6
            have hb6' := hb5'.trans (hb6.mono hs5)
            have ht6 := ht.later hb6'
            have hs6 := hb6'.size
            clear own6 hb6 r5 hb5' ht5
            go_wp2_with fail
            refine (started_any ht6).mono ?_
            rintro e w10 ⟨rfl, hb7⟩
            have hb7' := hb6'.trans (hb7.mono hs6)
            clear hb7
            go_wp2_with fail
            refine (num_any _ _).mono ?_
            rintro e w11 ⟨rfl, rfl⟩
            go_wp2
            go_ret
            exact ⟨rfl, hb7'⟩

theorem bursts_walk2 {vb vr : Value} {body rest : List Nat} {w : World} (p x : Int) (low : Bool) (hb : Rd w vb body) (hr : Rd w vr rest) (ht : Tab w) (wp : (Lit.int .i64 p).wf = true) (wx : (Lit.int .u32 x).wf = true) (hlr : rest.length ≤ 1048576) :
    Calls Tryd.prog 3 #[vb, .int .i64 p, .int .u32 x, .bool low, vr] w fun e w' => e = .returned (.bool true) ∧ Below w.heap.size w w' := by
  have h1 := bounds_i64 wp
  have h2 := bounds_u32 wx
  obtain ⟨s, rfl⟩ := Int.eq_ofNat_of_zero_le h2.1
  exact bursts_walk p s low hb hr ht h1 (by omega) hlr

end Go.Proofs.YtbfeecnhmlcfaaaDoor
