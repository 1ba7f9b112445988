import Derived.Test.YtieehdhinponcaaJ08
import Derived.Test.YtieehdhinponcaaJ06
import Derived.Test.YtieehdhinponcaaJ07
import Derived.Laws.AppendOwnNone
namespace Go.Proofs.Ytieehdhinponcaa
open Go.RowKit
set_option linter.unusedVariables false

def cntN (m : Nat) (S : Nat → Bool) : Nat := (List.range m).countP S
theorem cntN_mono {m : Nat} {S T : Nat → Bool} (h : ∀ i, i < m → S i = true → T i = true) : cntN m S ≤ cntN m T :=
  List.countP_mono_left fun i hi hs => h i (by simpa using hi) hs
theorem cntN_or (m : Nat) (S T : Nat → Bool) : cntN m (fun i => S i || T i) ≤ cntN m S + cntN m T := by
  unfold cntN
  induction List.range m with
  | nil => simp
  | cons a l ih =>
    simp only [List.countP_cons]
    cases S a <;> cases T a <;> simp <;> omega
theorem cntN_one (m a : Nat) : cntN m (fun i => i == a) ≤ 1 := by
  have h : (List.range m).countP (fun i => i == a) = (List.range m).count a := rfl
  unfold cntN
  rw [h]
  exact List.nodup_iff_count.1 List.nodup_range a
theorem cntN_list (m : Nat) (l : List Nat) : cntN m (fun i => l.contains i) ≤ l.length := by
  induction l with
  | nil => simp [cntN]
  | cons a l ih =>
    have e : (fun i => (a :: l).contains i) = fun i => (i == a) || l.contains i := by
      funext i
      rw [List.contains_cons]
    rw [e]
    have h1 := cntN_or m (fun i => i == a) (fun i => l.contains i)
    have h2 := cntN_one m a
    simp only [List.length_cons]
    omega
theorem cntN_keys (ks : List (List Nat)) (p m : Nat) : cntN m (keyS ks p m) ≤ p * ks.length := by
  induction ks with
  | nil => simp [cntN, keyS]
  | cons k ks ih =>
    have e : keyS (k :: ks) p m = fun i => (placesN k p m).contains i || keyS ks p m i := by funext i; simp [keyS]
    rw [e]
    have h1 := cntN_or m (fun i => (placesN k p m).contains i) (keyS ks p m)
    have h2 := cntN_list m (placesN k p m)
    have h3 : (placesN k p m).length = p := by simp [placesN]
    rw [List.length_cons, Nat.mul_succ]
    omega
theorem onesN_byte (S : Nat → Bool) (q : Nat) : onesN (byteS S q) = (S (8 * q)).toNat + (S (8 * q + 1)).toNat + (S (8 * q + 2)).toNat + (S (8 * q + 3)).toNat + (S (8 * q + 4)).toNat + (S (8 * q + 5)).toNat + (S (8 * q + 6)).toNat + (S (8 * q + 7)).toNat := by
  have e : List.range 8 = [0, 1, 2, 3, 4, 5, 6, 7] := by decide
  have b0 := byteS_bit S q 0 (by decide)
  have b1 := byteS_bit S q 1 (by decide)
  have b2 := byteS_bit S q 2 (by decide)
  have b3 := byteS_bit S q 3 (by decide)
  have b4 := byteS_bit S q 4 (by decide)
  have b5 := byteS_bit S q 5 (by decide)
  have b6 := byteS_bit S q 6 (by decide)
  have b7 := byteS_bit S q 7 (by decide)
  simp only [Nat.reduceSub, Nat.add_zero] at b0 b1 b2 b3 b4 b5 b6 b7
  simp only [onesN, e, List.foldl_cons, List.foldl_nil, b0, b1, b2, b3, b4, b5, b6, b7]
  omega
theorem onesB_body (S : Nat → Bool) : ∀ q, onesB ((List.range q).map (byteS S)) = cntN (8 * q) S := by
  intro q
  induction q with
  | zero => rfl
  | succ q ih =>
    rw [List.range_succ, List.map_append, List.map_cons, List.map_nil, onesB_snoc, ih, onesN_byte]
    have e : List.range (8 * (q + 1)) = List.range (8 * q) ++ [8 * q, 8 * q + 1, 8 * q + 2, 8 * q + 3, 8 * q + 4, 8 * q + 5, 8 * q + 6, 8 * q + 7] := by
      rw [show 8 * (q + 1) = 8 * q + 1 + 1 + 1 + 1 + 1 + 1 + 1 + 1 by omega]
      simp only [List.range_succ, List.append_assoc, List.cons_append, List.nil_append]
    unfold cntN
    rw [e, List.countP_append]
    simp only [List.countP_cons, List.countP_nil]
    have h : ∀ b : Bool, (if b = true then 1 else 0) = b.toNat := by decide
    simp only [h]
    omega
theorem ones_filt {p m : Nat} (S : Nat → Bool) (hp : 1 ≤ p ∧ p ≤ 14) (hm : 64 ≤ m ∧ m ≤ 20971520 ∧ m % 8 = 0) : onesL (filt p m S) = cntN m S := by
  unfold onesL
  rw [(good_filt S hp hm).1, if_pos rfl]
  have e : (filt p m S).drop 6 = (List.range (m / 8)).map (byteS S) := by simp [filt, headL, bodyS]
  show onesB ((filt p m S).drop 6) = _
  rw [e, onesB_body, show 8 * (m / 8) = m by omega]

/-- Lists of the same keys. -/
theorem sub_len {α : Type} [DecidableEq α] : ∀ {l k : List α}, l.Nodup → (∀ x ∈ l, x ∈ k) → l.length ≤ k.length
  | [], _, _, _ => by simp
  | a :: l, k, hn, hs => by
    have ha : a ∈ k := hs a (by simp)
    have h1 : l.length ≤ (k.erase a).length := sub_len (List.nodup_cons.1 hn).2 (fun x hx => by
      have hne : x ≠ a := fun e => (List.nodup_cons.1 hn).1 (by rw [← e]; exact hx)
      exact (List.mem_erase_of_ne hne).2 (hs x (by simp [hx])))
    rw [List.length_erase_of_mem ha] at h1
    have : 0 < k.length := List.length_pos_of_mem ha
    simp only [List.length_cons]
    omega
theorem uniq_sub {a b : List (List Nat)} (h : ∀ x ∈ a, x ∈ b) : (uniq a).length ≤ (uniq b).length :=
  sub_len (uniq_nodup a) fun x hx => mem_uniq.2 (h x (mem_uniq.1 hx))
theorem keyS_sub {a b : List (List Nat)} (h : ∀ x ∈ a, x ∈ b) (p m i : Nat) (hs : keyS a p m i = true) : keyS b p m i = true := by
  unfold keyS at hs ⊢
  rw [List.any_eq_true] at hs ⊢
  obtain ⟨k, hk, h2⟩ := hs
  exact ⟨k, h k hk, h2⟩
theorem build_same {a b : List (List Nat)} (n : Nat) (h : ∀ x, x ∈ a ↔ x ∈ b) : buildL n a = buildL n b := by
  unfold buildL
  have e : (uniq a).length = (uniq b).length := Nat.le_antisymm (uniq_sub fun x hx => (h x).1 hx) (uniq_sub fun x hx => (h x).2 hx)
  rw [e]
  congr 1
  funext i
  rw [Bool.eq_iff_iff]
  exact ⟨keyS_sub (fun x hx => (h x).1 hx) _ _ i, keyS_sub (fun x hx => (h x).2 hx) _ _ i⟩
theorem mOf_mono {b n n' : Nat} (h : n ≤ n') : mOf b n ≤ mOf b n' := by
  have : n * b ≤ n' * b := Nat.mul_le_mul_right b h
  unfold mOf
  omega
theorem byteS_sub {S T : Nat → Bool} {q : Nat} (h : ∀ k, k < 8 → S (8 * q + k) = true → T (8 * q + k) = true) : byteS S q &&& byteS T q = byteS S q := by
  refine byte_ext (Nat.lt_of_le_of_lt Nat.and_le_left (byteS_lt _ _)) (byteS_lt _ _) fun k hk => ?_
  rw [Nat.testBit_and, byteS_bit S q k hk, byteS_bit T q k hk]
  have := h k hk
  cases hs : S (8 * q + k) with
  | false => rfl
  | true => rw [this hs]; rfl
/-- What BloomSets asks of a filter and of one of fewer keys. -/
theorem sets_pure {b : Nat} {ks hs : List (List Nat)} (hb : b ≤ 20) (hn : ks.length ≤ 1048576) (hh : hs.length ≤ 1048576) (hsub : ∀ x ∈ hs, x ∈ ks) (hne : ks ≠ []) :
    (buildL b hs).length ≤ (buildL b ks).length ∧
    ((buildL b hs).length = (buildL b ks).length → ∀ k, k < (buildL b ks).length → (6 ≤ k → (buildL b hs).getD k 0 &&& (buildL b ks).getD k 0 = (buildL b hs).getD k 0) ∧ (k < 6 → (buildL b hs).getD k 0 = (buildL b ks).getD k 0)) ∧
    1 ≤ onesL (buildL b ks) ∧ onesL (buildL b ks) ≤ (buildL b ks).getD 1 0 * ks.length ∧ ((buildL b hs).length = (buildL b ks).length → onesL (buildL b hs) ≤ onesL (buildL b ks)) ∧ onesL (buildL b ks) ≤ 20971520 := by
  have hp := pOf_le hb
  have hm1 := mOf_le (n := (uniq ks).length) hb (Nat.le_trans (uniq_le ks) hn)
  have hm2 := mOf_le (n := (uniq hs).length) hb (Nat.le_trans (uniq_le hs) hh)
  have hmm := mOf_mono (b := b) (uniq_sub hsub)
  have e1 : (buildL b ks).length = 6 + mOf b (uniq ks).length / 8 := filt_length _ _ _
  have e2 : (buildL b hs).length = 6 + mOf b (uniq hs).length / 8 := filt_length _ _ _
  have o1 : onesL (buildL b ks) = cntN _ _ := ones_filt _ hp hm1
  have o2 : onesL (buildL b hs) = cntN _ _ := ones_filt _ hp hm2
  have hmeq : (buildL b hs).length = (buildL b ks).length → mOf b (uniq hs).length = mOf b (uniq ks).length := fun h => by omega
  refine ⟨by omega, fun hl k hk => ?_, ?_, ?_, fun hl => ?_, ?_⟩
  · have hme := hmeq hl
    refine ⟨fun h6 => ?_, fun h6 => ?_⟩
    · have key : ∀ (L : List (List Nat)), mOf b (uniq L).length = mOf b (uniq ks).length → (buildL b L).getD k 0 = byteS (keyS L (pOf b) (mOf b (uniq ks).length)) (k - 6) := by
        intro L hL
        unfold buildL
        rw [hL]
        rw [← bodyS_get (mOf b (uniq ks).length) _ (k - 6) (by omega)]
        have hd : (headL (pOf b) (mOf b (uniq ks).length)).length = 6 := rfl
        unfold filt List.getD
        rw [List.getElem?_append_right (by omega), hd]
      rw [key hs hme, key ks rfl]
      exact byteS_sub fun j _ h => keyS_sub hsub _ _ _ h
    · unfold buildL filt List.getD
      rw [hme, List.getElem?_append_left (by simpa [headL] using h6), List.getElem?_append_left (by simpa [headL] using h6)]
  · rw [o1]
    obtain ⟨k, ks', rfl⟩ := List.exists_cons_of_ne_nil hne
    unfold cntN
    refine List.countP_pos_iff.2 ⟨placeN k (mOf b (uniq (k :: ks')).length) 0, by simpa using placeN_lt k (by omega) 0, ?_⟩
    unfold keyS
    rw [List.any_eq_true]
    refine ⟨k, by simp, ?_⟩
    simp only [placesN, List.contains_eq_mem, List.mem_map, List.mem_range, decide_eq_true_eq]
    exact ⟨0, by omega, rfl⟩
  · rw [o1]
    have e : (buildL b ks).getD 1 0 = pOf b := by unfold buildL; simp [filt, headL]
    rw [e]
    exact cntN_keys ks _ _
  · rw [o1, o2, hmeq hl]
    exact cntN_mono fun i _ h => keyS_sub hsub _ _ _ h
  · rw [o1]
    refine Nat.le_trans (List.countP_le_length) ?_
    simp
    omega
end Go.Proofs.Ytieehdhinponcaa

namespace Go.Proofs.Ytieehdhinponcaa
open Go.RowKit
set_option linter.unusedVariables false

theorem good_m {L : List Nat} (h : good L = true) : 64 ≤ mIn L ∧ mIn L ≤ 20971520 ∧ mIn L % 8 = 0 ∧ 1 ≤ pIn L ∧ pIn L ≤ 14 ∧ L.length = 6 + mIn L / 8 := by
  unfold good at h
  obtain ⟨h6, h0, ⟨hp1, hp2, hm8, hm1, hm2⟩, hl⟩ := of_decide_eq_true h
  exact ⟨hm1, hm2, hm8, hp1, hp2, hl⟩
/-- strataref6.read, of a filter. -/
theorem refRead_good {v : Value} {L : List Nat} {w : World} (hr : Rd w v L) (hg : good L = true) :
    Calls Try.prog 45 #[v] w fun e w' => ∃ g c, e = .returned (.tuple #[.int .i64 ((pIn L : Nat) : Int), .slice (some ⟨g, 0, none⟩) (mIn L) c, .bool true]) ∧ w.heap.size ≤ g ∧ g < w'.heap.size ∧ mIn L ≤ c ∧ c ≤ maxLen ∧
      w'.ownsRow w.heap.size 4 1 (.slice (some ⟨g, 0, none⟩) (mIn L) c) (mIn L) (bl ((List.range (mIn L)).map (bitsOf L))) ∧ (∀ i, i < mIn L → w'.cell? ⟨g, i, none⟩ = some (.bool (bitsOf L i))) ∧ Below w.heap.size w w' := by
  refine (refRead_any hr).mono ?_
  rintro e w' ⟨hb, ⟨h, _⟩ | ⟨_, a, c, rfl, own⟩⟩
  · rw [hg] at h; cases h
  · have hm := good_m hg
    rcases own.2 with ⟨h1, h2⟩ | ⟨g, cap, cur, h1, h2, h3, h4, h5, h6, h7⟩
    · omega
    · cases h1
      have hl := own.lt g rfl
      refine ⟨g, c, rfl, hl.1, hl.2, by omega, by omega, own, fun i hi => ?_, hb⟩
      rw [own.cellAt i (by omega)]
      simp [bl, hi]
/-- .. of what is none. -/
theorem refRead_bad {v : Value} {L : List Nat} {w : World} (hr : Rd w v L) (hg : good L = false) :
    Calls Try.prog 45 #[v] w fun e w' => e = .returned (.tuple #[.int .i64 0, .slice none 0 0, .bool false]) ∧ Below w.heap.size w w' := by
  refine (refRead_any hr).mono ?_
  rintro e w' ⟨hb, ⟨_, h⟩ | ⟨h, _⟩⟩
  · exact ⟨h, hb⟩
  · rw [hg] at h; cases h

set_option maxRecDepth 100000 in
set_option maxHeartbeats 400000 in
theorem refCheck_any {v : Value} {L : List Nat} {w : World} (hr : Rd w v L) :
    Calls Try.prog 26 #[v] w fun e w' => e = .returned (.int .i64 ((chkE L : Nat) : Int)) ∧ Below w.heap.size w w' := by
  cases hg : good L with
  | false =>
    have hE : chkE L = 62 := by simp [chkE, hg]
    rw [hE]
    have HR : Hid (Calls Try.prog 45 #[v] w fun e w' => e = .returned (.tuple #[.int .i64 0, .slice none 0 0, .bool false]) ∧ Below w.heap.size w w') := refRead_bad hr hg
    obtain ⟨a0, n0, c0, rfl⟩ : ∃ a n cap, v = .slice a n cap := by obtain ⟨_, a1, c1, h2, _⟩ := hr; exact ⟨_, _, _, h2⟩
    clear hr hg hE
    go_enter Try.func26, Try.ntmps26
    go_wp2_with (go_at_call 45; refine Calls.mono HR.out ?_; rintro e1 w1 ⟨rfl, b1⟩)
    go_ret
    exact ⟨rfl, b1⟩
  | true =>
    have hE : chkE L = 0 := by simp [chkE, hg]
    rw [hE]
    have HR : Hid (Calls Try.prog 45 #[v] w fun e w' => ∃ p m g c : Nat, e = .returned (.tuple #[.int .i64 (p : Int), .slice (some ⟨g, 0, none⟩) m c, .bool true]) ∧ Below w.heap.size w w') := (refRead_good hr hg).mono fun e w' ⟨g, c, h, _, _, _, _, _, _, hb⟩ => ⟨_, _, g, c, h, hb⟩
    obtain ⟨a0, n0, c0, rfl⟩ : ∃ a n cap, v = .slice a n cap := by obtain ⟨_, a1, c1, h2, _⟩ := hr; exact ⟨_, _, _, h2⟩
    clear hr hg hE
    go_enter Try.func26, Try.ntmps26
    go_wp2_with (go_at_call 45; refine Calls.mono HR.out ?_; rintro e1 w1 ⟨p, m, g, c, rfl, b1⟩)
    go_ret
    exact ⟨rfl, b1⟩

theorem cntN_succ (k : Nat) (S : Nat → Bool) : cntN (k + 1) S = cntN k S + (S k).toNat := by
  unfold cntN
  rw [List.range_succ, List.countP_append]
  cases h : S k <;> simp [h]
theorem onesL_cnt {L : List Nat} (hb : ∀ x ∈ L, x < 256) (hg : good L = true) : onesL L = cntN (mIn L) (bitsOf L) := by
  have hm := good_m hg
  conv => lhs; rw [filt_is hb hg]
  exact ones_filt _ ⟨hm.2.2.2.1, hm.2.2.2.2.1⟩ ⟨hm.1, hm.2.1, hm.2.2.1⟩

set_option maxRecDepth 100000 in
set_option maxHeartbeats 400000 in
theorem refOnes_any {v : Value} {L : List Nat} {w : World} (hr : Rd w v L) :
    Calls Try.prog 27 #[v] w fun e w' => e = .returned (.int .i64 ((onesL L : Nat) : Int)) ∧ Below w.heap.size w w' := by
  cases hg : good L with
  | false =>
    have hE : onesL L = 0 := by simp [onesL, hg]
    rw [hE]
    have HR : Hid (Calls Try.prog 45 #[v] w fun e w' => e = .returned (.tuple #[.int .i64 0, .slice none 0 0, .bool false]) ∧ Below w.heap.size w w') := refRead_bad hr hg
    obtain ⟨a0, n0, c0, rfl⟩ : ∃ a n cap, v = .slice a n cap := by obtain ⟨_, a1, c1, h2, _⟩ := hr; exact ⟨_, _, _, h2⟩
    clear hr hg hE
    go_enter Try.func27, Try.ntmps27
    go_wp2_with (go_at_call 45; refine Calls.mono HR.out ?_; rintro e1 w1 ⟨rfl, b1⟩)
    go_loop [6, 7] (fun x i => i = .int .i64 0 ∧ x = .int .i64 0) (fun _ i => 0)
    case atStart => exact ⟨rfl, rfl⟩
    case round =>
      obtain ⟨rfl, rfl⟩ := hrel
      go_wp2
      go_ret
      exact ⟨rfl, b1⟩
  | true =>
    have hE := onesL_cnt hr.1 hg
    have hm := good_m hg
    have HR : Hid (Calls Try.prog 45 #[v] w fun e w' => ∃ g c, e = .returned (.tuple #[.int .i64 ((pIn L : Nat) : Int), .slice (some ⟨g, 0, none⟩) (mIn L) c, .bool true]) ∧ (∀ i, i < mIn L → w'.cell? ⟨g, i, none⟩ = some (.bool (bitsOf L i))) ∧ Below w.heap.size w w') := (refRead_good hr hg).mono fun e w' ⟨g, c, h, _, _, _, _, _, hc, hb⟩ => ⟨g, c, h, hc, hb⟩
    obtain ⟨a0, n0, c0, rfl⟩ : ∃ a n cap, v = .slice a n cap := by obtain ⟨_, a1, c1, h2, _⟩ := hr; exact ⟨_, _, _, h2⟩
    generalize pIn L = p at *
    generalize mIn L = m at *
    generalize bitsOf L = S at *
    rw [hE]
    have hm2 : m ≤ 20971520 := hm.2.1
    clear hr hg hE hm
    go_enter Try.func27, Try.ntmps27
    go_wp2_with (go_at_call 45; refine Calls.mono HR.out ?_; rintro e1 w1 ⟨g, c, rfl, hc, b1⟩)
    have HC : Hid (∀ i, i < m → w1.cell? ⟨g, i, none⟩ = some (.bool (S i))) := hc
    clear hc
    go_loop [6, 7] (fun x i => ∃ k r : Nat, k ≤ m ∧ i = .int .i64 (k : Int) ∧ x = .int .i64 (r : Int) ∧ r ≤ k ∧ r = cntN k S) (fun _ i => m - (intOf i).toNat)
    case atStart => exact ⟨0, 0, Nat.zero_le _, rfl, rfl, Nat.zero_le _, rfl⟩
    case round =>
      obtain ⟨k, r, hk, rfl, rfl, hr, hrr⟩ := hrel
      have HR2 : Hid (r = cntN k S) := hrr
      clear hrr
      by_cases hlt : k < m
      · have hlt2 : (k : Int) < (m : Int) := by omega
        have hcc := HC.out k hlt
        cases hs : S k with
        | false =>
          rw [hs] at hcc
          go_wp2
          go_round
          case rel => exact ⟨k + 1, r, by omega, by go_num, rfl, by omega, by rw [cntN_succ, hs, HR2.out]; rfl⟩
          case measure => simp [intOf]; omega
        | true =>
          rw [hs] at hcc
          go_wp2
          go_round
          case rel => exact ⟨k + 1, r + 1, by omega, by go_num, by go_num, by omega, by rw [cntN_succ, hs, HR2.out]; rfl⟩
          case measure => simp [intOf]; omega
      · have hkm : k = m := by omega
        subst hkm
        have hr2 : r = cntN k S := HR2.out
        subst hr2
        go_wp2
        go_ret
        exact ⟨rfl, b1⟩
end Go.Proofs.Ytieehdhinponcaa

namespace Go.Proofs.Ytieehdhinponcaa
open Go.RowKit
set_option linter.unusedVariables false

theorem placesN_length (k : List Nat) (p m : Nat) : (placesN k p m).length = p := by simp [placesN]
theorem placesN_getD (k : List Nat) {p m j : Nat} (hj : j < p) : (placesN k p m).getD j 0 = placeN k m j := by simp [placesN, List.getD, hj]
set_option maxRecDepth 100000 in
set_option maxHeartbeats 1000000 in
theorem refHas_any {vf vk : Value} {L k : List Nat} {w : World} (hf : Rd w vf L) (hk : Rd w vk k) :
    Calls Try.prog 25 #[vf, vk] w fun e w' => e = .returned (.tuple #[.bool (hasB L k), .int .i64 ((chkE L : Nat) : Int)]) ∧ Below w.heap.size w w' := by
  cases hg : good L with
  | false =>
    have hE : chkE L = 62 := by simp [chkE, hg]
    have hB : hasB L k = false := by simp [hasB, hg]
    rw [hE, hB]
    have HR : Hid (Calls Try.prog 45 #[vf] w fun e w' => e = .returned (.tuple #[.int .i64 0, .slice none 0 0, .bool false]) ∧ Below w.heap.size w w') := refRead_bad hf hg
    obtain ⟨a0, n0, c0, rfl⟩ : ∃ a n cap, vf = .slice a n cap := by obtain ⟨_, a1, c1, h2, _⟩ := hf; exact ⟨_, _, _, h2⟩
    obtain ⟨a9, n9, c9, rfl⟩ : ∃ a n cap, vk = .slice a n cap := by obtain ⟨_, a1, c1, h2, _⟩ := hk; exact ⟨_, _, _, h2⟩
    clear hf hk hg hE hB
    go_enter Try.func25, Try.ntmps25
    go_wp2_with (go_at_call 45; refine Calls.mono HR.out ?_; rintro e1 w1 ⟨rfl, b1⟩)
    refine bodyPost_ret (v := .tuple #[.bool false, .int .i64 62]) ?_ rfl ⟨rfl, b1⟩
    simp [results, Try.results25, go_sem]
  | true =>
    have hE : chkE L = 0 := by simp [chkE, hg]
    have hB : hasB L k = hasL L k := by simp [hasB, hg]
    rw [hE, hB]
    have hm := good_m hg
    have HR : Hid (Calls Try.prog 45 #[vf] w fun e w' => ∃ g c, e = .returned (.tuple #[.int .i64 ((pIn L : Nat) : Int), .slice (some ⟨g, 0, none⟩) (mIn L) c, .bool true]) ∧ g < w'.heap.size ∧ (∀ i, i < mIn L → w'.cell? ⟨g, i, none⟩ = some (.bool (bitsOf L i))) ∧ Below w.heap.size w w') := (refRead_good hf hg).mono fun e w' ⟨g, c, h, _, hgl, _, _, _, hc, hb⟩ => ⟨g, c, h, hgl, hc, hb⟩
    have HP : Hid (∀ wx, Below w.heap.size w wx → Calls Try.prog 43 #[vk, .int .i64 ((pIn L : Nat) : Int), .int .i64 ((mIn L : Nat) : Int)] wx fun e w' => ∃ a c, e = .returned (.slice a (pIn L) c) ∧ w'.ownsRow wx.heap.size 3 1 (.slice a (pIn L) c) (pIn L) (iv (placesN k (pIn L) (mIn L))) ∧ Below wx.heap.size wx w') :=
      fun wx hb => refPlaces_any (hk.later hb) _ _ hm.2.2.2.2.1 (by omega) hm.2.1
    unfold hasL
    obtain ⟨a0, n0, c0, rfl⟩ : ∃ a n cap, vf = .slice a n cap := by obtain ⟨_, a1, c1, h2, _⟩ := hf; exact ⟨_, _, _, h2⟩
    obtain ⟨a9, n9, c9, rfl⟩ : ∃ a n cap, vk = .slice a n cap := by obtain ⟨_, a1, c1, h2, _⟩ := hk; exact ⟨_, _, _, h2⟩
    obtain ⟨hm1, hm2, -, hp1, hp2, -⟩ := hm
    generalize pIn L = p at *
    generalize mIn L = m at *
    generalize bitsOf L = S at *
    clear hf hk hg hE hB
    go_enter Try.func25, Try.ntmps25
    go_wp2_with (first | (go_at_call 45; refine Calls.mono HR.out ?_; rintro e1 w1 ⟨g, c, rfl, hgl, hc, b1⟩) | (go_at_call 43; refine Calls.mono (HP.out _ b1) ?_; rintro e2 w2 ⟨a2, c2, rfl, own2, b2⟩))
    rcases own2.2 with ⟨h1, h2⟩ | ⟨g2, cap2, cur2, h1, -, -, q1, q2, -, -⟩
    · omega
    cases h1
    have HC : Hid (∀ i, i < m → w2.cell? ⟨g, i, none⟩ = some (.bool (S i))) := fun i hi => (b2.cell (p := ⟨g, i, none⟩) hgl).trans (hc i hi)
    have HD : Hid (∀ j, j < p → w2.cell? ⟨g2, j, none⟩ = some (.int .i64 ((placeN k m j : Nat) : Int))) := fun j hj => by
      rw [own2.cellAt j (by omega)]
      simp [iv, placesN, hj]
    clear hc own2
    have B2 := b1.trans (b2.mono b1.size)
    go_loop [10] (fun i => ∃ j : Nat, j ≤ p ∧ i = .int .i64 (j : Int) ∧ Hid (∀ q, q < j → S (placeN k m q) = true)) (fun i => p - (intOf i).toNat)
    case atStart => exact ⟨0, Nat.zero_le _, rfl, fun q hq => by omega⟩
    case round =>
      obtain ⟨j, hj, rfl, HI⟩ := hrel
      by_cases hlt : j < p
      · have hlt2 : (j : Int) < (p : Int) := by omega
        have hdd := HD.out j hlt
        have hpl : placeN k m j < m := placeN_lt k (by omega) j
        have hcc := HC.out _ hpl
        obtain ⟨z, hz⟩ : ∃ z, z = placeN k m j := ⟨_, rfl⟩
        rw [← hz] at hdd hpl hcc
        have HZ : Hid (z = placeN k m j) := hz
        clear hz
        have hzi : (z : Int) < (m : Int) := by omega
        cases hs : S z with
        | false =>
          rw [hs] at hcc
          go_wp2
          refine bodyPost_ret (v := .tuple #[.bool false, .int .i64 0]) ?_ rfl ⟨?_, B2⟩
          · simp [results, Try.results25, go_sem]
          · have e : (placesN k p m).all S = false := by
              rw [List.all_eq_false]
              exact ⟨z, by rw [HZ.out]; exact List.mem_map.mpr ⟨j, by simpa using hlt, rfl⟩, by simp [hs]⟩
            rw [e]
        | true =>
          rw [hs] at hcc
          go_wp2
          go_round
          case rel =>
            refine ⟨j + 1, by omega, by go_num, fun q hq => ?_⟩
            by_cases hqj : q = j
            · rw [hqj, ← HZ.out]; exact hs
            · exact HI.out q (by omega)
          case measure => simp [intOf]; omega
      · have hjp : j = p := by omega
        subst hjp
        go_wp2
        refine bodyPost_ret (v := .tuple #[.bool true, .int .i64 0]) ?_ rfl ⟨?_, B2⟩
        · simp [results, Try.results25, go_sem]
        · have e : (placesN k j m).all S = true := by
            rw [List.all_eq_true]
            intro x hx
            obtain ⟨q, hq, rfl⟩ := List.mem_map.mp hx
            exact HI.out q (by simpa using hq)
          rw [e]
end Go.Proofs.Ytieehdhinponcaa

namespace Go.Proofs.Ytieehdhinponcaa
open Go.RowKit
set_option linter.unusedVariables false

theorem news_new (w : World) (xs : List Value) (T : TypeId) : ∀ j u, xs[j]? = some u → (w.alloc (.cells xs.toArray T)).cell? ((⟨w.heap.size, 0, none⟩ : Addr).add j) = some u := by
  intro j u hj
  have : (⟨w.heap.size, 0, none⟩ : Addr).add j = ⟨w.heap.size, j, none⟩ := by unfold Addr.add; split <;> simp_all
  rw [this]
  unfold World.cell?
  rw [heap_alloc_new]
  simpa using hj

/-- append(own, bytes...): whatever address the bytes lie at, nil too. -/
theorem wpList_append_at {w : World} {ops : Array Oper} {rest : List Oper} {o : Oper} {a : Act} {Q : Exit → Act → World → Prop} (hgd : o.guard = none) (s x : Operand)
    (ho : o.op = .call { callee := .builtin .append, args := #[s, x], argTypes := #[24, 24] })
    (B : Nat) (a0 : Option Addr) (m0 c0 : Nat) (acc : List Nat) (hs : a.eval s = .slice a0 m0 c0) (hown : Own w B (.slice a0 m0 c0) m0 acc)
    (ao : Option Addr) (m c : Nat) (bs : List Nat) (hx : a.eval x = .slice ao m c) (hrd : Rd w (.slice ao m c) bs)
    (hbytes : m0 + m ≤ 140737488355328) (hB : B ≤ w.heap.size)
    (h : ∀ a' m' c' w', Own w' B (.slice a' m' c') m' (acc ++ bs) → Below B w w' → wpList Try.prog ops Q rest (a.put o.dst (.slice a' m' c')) w') : wpList Try.prog ops Q (o :: rest) a w := by
  obtain ⟨i0, hi, hz0, hz1, hz2⟩ := info_parts info_byte
  obtain ⟨hby, a1, c1, h2, hle, hm, hl48, hnone, hat⟩ := hrd
  simp only [Value.slice.injEq] at h2
  obtain ⟨rfl, rfl, rfl⟩ := h2
  cases ao with
  | none =>
    have hb0 : bs = [] ∧ c = 0 := by
      rcases hnone with h | ⟨b, off, h⟩
      · exact ⟨List.eq_nil_of_length_eq_zero (by omega), h⟩
      · cases h
    obtain ⟨rfl, rfl⟩ := hb0
    refine wpList_append_own_none hgd s x 24 ho B 5 i0 1 und_bytes hi _ _ _ hs hown.2 (by simpa using hx) ?_
    exact h _ _ _ _ (by simpa using hown) (Below.refl _ _)
  | some ad =>
    refine wpList_append_own _ hgd s x 24 ho B 5 i0 (.int .u8 0) 1 1 und_bytes hi hz0 hz1 hz2 rfl (by decide) _ m0 (bv acc) hs hown.2 ad bs.length c (bv bs) hx (by simp [bv]) hat.add (bv_oneCell bs) (by unfold maxLen; omega) (by omega) hB ?_
    intro v' w' h1 h2 _
    obtain ⟨a', c', rfl⟩ := own_form h1
    refine h a' _ c' w' ⟨by rw [hown.1]; simp, by simpa [bv] using h1⟩ ((Below.refl B w).grown h2 hB (fun k hk => (hown.2.lt k hk).1))

/-- append(own, x, y, ..): bytes that were just laid into a block of their own. -/
theorem wpList_append_new {w : World} {ops : Array Oper} {rest : List Oper} {o : Oper} {a : Act} {Q : Exit → Act → World → Prop} (hgd : o.guard = none) (s x : Operand)
    (ho : o.op = .call { callee := .builtin .append, args := #[s, x], argTypes := #[24, 24] })
    (B : Nat) (a0 : Option Addr) (m0 c0 : Nat) (acc : List Nat) (hs : a.eval s = .slice a0 m0 c0) (hown : Own w B (.slice a0 m0 c0) m0 acc)
    (vs : List Value) (m : Nat) (hx : a.eval x = .slice (some ⟨w.heap.size, 0, none⟩) m m) (bs : List Nat) (hvs : vs = bv bs) (hm : m = bs.length)
    (hbytes : m0 + m ≤ 140737488355328) (hB : B ≤ w.heap.size)
    (h : ∀ a' m' c' w', Own w' B (.slice a' m' c') m' (acc ++ bs) → Below B w w' → wpList Try.prog ops Q rest (a.put o.dst (.slice a' m' c')) w') : wpList Try.prog ops Q (o :: rest) a (w.alloc (.cells vs.toArray 5)) := by
  obtain ⟨i0, hi, hz0, hz1, hz2⟩ := info_parts info_byte
  subst hvs
  refine wpList_append_own _ hgd s x 24 ho B 5 i0 (.int .u8 0) 1 1 und_bytes hi hz0 hz1 hz2 rfl (by decide) _ m0 (bv acc) hs (hown.2.alloc _) ⟨w.heap.size, 0, none⟩ m m (bv bs) hx (by simp [bv, hm]) (news_new _ _ _) (bv_oneCell bs) (by unfold maxLen; omega) (by omega) (by simp; omega) ?_
  intro v' w' h1 h2 _
  obtain ⟨a', c', rfl⟩ := own_form h1
  refine h a' _ c' w' ⟨by rw [hown.1, hm]; simp, by simpa [bv] using h1⟩ (((Below.refl B w).alloc hB _).grown h2 (by simp; omega) (fun k hk => (hown.2.lt k hk).1))

end Go.Proofs.Ytieehdhinponcaa

namespace Go.Proofs.Ytieehdhinponcaa
open Go.RowKit
set_option linter.unusedVariables false

def parS (S : Nat → Bool) (q k : Nat) : Nat := (List.range k).foldl (fun c k => 2 * c + (if S (8 * q + k) then 1 else 0)) 0
theorem parS_succ (S : Nat → Bool) (q k : Nat) : parS S q (k + 1) = 2 * parS S q k + (if S (8 * q + k) then 1 else 0) := by
  unfold parS
  rw [List.range_succ, List.foldl_append, List.foldl_cons, List.foldl_nil]
theorem parS_lt (S : Nat → Bool) (q : Nat) : ∀ k, parS S q k < 2 ^ k
  | 0 => by simp [parS]
  | k + 1 => by
    have := parS_lt S q k
    rw [parS_succ, Nat.pow_succ]
    split <;> omega
theorem parS_small (S : Nat → Bool) (q : Nat) {k : Nat} (hk : k ≤ 8) : parS S q k < 256 := Nat.lt_of_lt_of_le (parS_lt S q k) (Nat.pow_le_pow_right (n := 2) (by decide) hk)
theorem headL_bys {p m : Nat} (hp : p ≤ 14) (hm : m ≤ 20971520) : Bys (headL p m) := by
  intro x hx
  simp [headL] at hx
  omega

set_option maxRecDepth 100000 in
set_option maxHeartbeats 1000000 in
theorem refLaid_any {g cs p m : Nat} {S : Nat → Bool} {w : World} (hc : ∀ i, i < m → w.cell? ⟨g, i, none⟩ = some (.bool (S i))) (hcs : m ≤ cs) (hp : p ≤ 14) (hm1 : 64 ≤ m) (hm2 : m ≤ 20971520) (hm8 : m % 8 = 0) :
    Calls Try.prog 44 #[.int .i64 (p : Int), .slice (some ⟨g, 0, none⟩) m cs] w fun e w' => ∃ a n c, e = .returned (.slice a n c) ∧ Own w' w.heap.size (.slice a n c) n (filt p m S) ∧ Below w.heap.size w w' := by
  have hgl : g < w.heap.size := World.block_lt_of_cell? w _ (hc 0 (by omega))
  have HC : Hid (∀ i, i < m → w.cell? ⟨g, i, none⟩ = some (.bool (S i))) := hc
  clear hc
  obtain ⟨M8, hM8⟩ : ∃ q, q = m / 8 := ⟨_, rfl⟩
  have hmq : m = 8 * M8 := by omega
  have HM8 : Hid (m = 8 * M8) := hmq
  clear hM8 hmq
  have own0 : Own w w.heap.size (.slice none 0 0) 0 [] := ⟨rfl, World.ownsRow_nil _ _ _ _⟩
  go_enter Try.func44, Try.ntmps44
  go_wp2_with (at_builtin; refine wpList_append_new rfl _ _ rfl w.heap.size _ _ _ _ rfl own0 _ 6 rfl (headL p m) (by simp [bv, headL]) rfl (by omega) (Nat.le_refl _) ?_; intro a1 m1 c1 w1 own1 b1)
  have HO1 : Hid (Own w1 w.heap.size (.slice a1 m1 c1) m1 (headL p m) ∧ Below w.heap.size w w1) := ⟨own1, b1⟩
  clear own0 own1 b1
  go_loopw [6, 7] (fun f i wr => ∃ (q n : Nat) (al : Option Addr) (cl : Nat), q ≤ M8 ∧ i = .int .i64 ((8 * q : Nat) : Int) ∧ f = .slice al n cl ∧ Hid (Own wr w.heap.size (.slice al n cl) n (headL p m ++ (List.range q).map (byteS S)) ∧ Below w.heap.size w wr)) (fun _ i _ => m - (intOf i).toNat)
  case atStart => exact ⟨0, m1, a1, c1, Nat.zero_le _, rfl, rfl, by simpa using HO1.out.1, HO1.out.2⟩
  case round =>
    obtain ⟨q, n, al, cl, hq, rfl, rfl, HI⟩ := hrel
    clear HO1
    by_cases hlt : q < M8
    · have hqm : 8 * q + 8 ≤ m := by have := HM8.out; omega
      obtain ⟨z, hz⟩ : ∃ z, z = 8 * q := ⟨_, rfl⟩
      rw [← hz]
      have HZ : Hid (z = 8 * q) := hz
      rw [← hz] at hqm
      clear hz
      have hlt2 : (z : Int) < (m : Int) := by omega
      have HCz : Hid (∀ k, k < 8 → wr.cell? ⟨g, z + k, none⟩ = some (.bool (S (8 * q + k)))) := fun k hk => by
        rw [← HZ.out]
        exact (HI.out.2.cell (p := ⟨g, z + k, none⟩) hgl).trans (HC.out (z + k) (by omega))
      go_wp2
      go_loop [8, 9] (fun c k => ∃ kn cn : Nat, kn ≤ 8 ∧ cn < 256 ∧ k = .int .i64 (kn : Int) ∧ c = .int .i64 (cn : Int) ∧ Hid (cn = parS S q kn)) (fun _ k => 8 - (intOf k).toNat)
      case atStart => exact ⟨0, 0, by omega, by omega, rfl, rfl, (rfl : 0 = parS S q 0)⟩
      case round =>
        obtain ⟨kn, cn, hk8, hc256, rfl, rfl, HP⟩ := hrel
        by_cases hk : kn < 8
        · have hki : (kn : Int) < 8 := by omega
          have hcc := HCz.out kn hk
          have hzk : (z : Int) + (kn : Int) < (m : Int) := by omega
          have hnx := parS_succ S q kn
          have hns := parS_small S q (k := kn + 1) (by omega)
          cases hs : S (8 * q + kn) with
          | false =>
            rw [hs] at hcc hnx
            rw [hnx, ← HP.out] at hns
            rw [← HP.out] at hnx
            simp only [Bool.false_eq_true, if_false, Nat.add_zero] at hns hnx
            have HX : Hid (parS S q (kn + 1) = 2 * cn) := hnx
            clear hnx
            go_wp2
            go_round
            case rel => exact ⟨kn + 1, 2 * cn, by omega, hns, by go_num, by go_num, HX.out.symm⟩
            case measure => simp [intOf]; omega
          | true =>
            rw [hs] at hcc hnx
            rw [hnx, ← HP.out] at hns
            rw [← HP.out] at hnx
            simp only [if_true] at hns hnx
            have HX : Hid (parS S q (kn + 1) = 2 * cn + 1) := hnx
            clear hnx
            go_wp2
            go_round
            case rel => exact ⟨kn + 1, 2 * cn + 1, by omega, hns, by go_num, by go_num, HX.out.symm⟩
            case measure => simp [intOf]; omega
        · have hk9 : kn = 8 := by omega
          subst hk9
          have hn7 : n ≤ 6 + m := by have := HI.out.1.1; have := HZ.out; rw [HI.out.1.1]; simp [headL]; omega
          go_wp2_with (at_builtin; refine wpList_append_new rfl _ _ rfl w.heap.size _ _ _ _ rfl HI.out.1 _ 1 rfl [cn] rfl rfl (by omega) HI.out.2.size ?_; intro a2 m2 c2 w2 own2 b2)
          go_roundw
          case rel =>
            refine ⟨q + 1, m2, a2, c2, by omega, by rw [HZ.out]; go_num, rfl, ?_, HI.out.2.trans b2⟩
            rw [List.range_succ, List.map_append, List.map_cons, List.map_nil, ← List.append_assoc]
            have e : byteS S q = cn := HP.out.symm
            rw [e]
            exact own2
          case measure => simp [intOf]; omega
    · have hqM : q = M8 := by omega
      subst hqM
      have hge : ¬ ((8 * q : Nat) : Int) < (m : Int) := by have := HM8.out; omega
      have hge2 : ¬ (8 * (q : Int)) < (m : Int) := by have := HM8.out; omega
      go_wp2
      go_ret
      refine ⟨al, n, cl, rfl, ?_, HI.out.2⟩
      unfold filt bodyS
      have e : m / 8 = q := by have := HM8.out; omega
      rw [e]
      exact HI.out.1
end Go.Proofs.Ytieehdhinponcaa
