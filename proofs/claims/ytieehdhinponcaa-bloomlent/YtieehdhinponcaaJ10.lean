import Derived.Test.YtieehdhinponcaaJ09
import Derived.Test.YtieehdhinponcaaJ06
namespace Go.Proofs.Ytieehdhinponcaa
open Go.RowKit
set_option linter.unusedVariables false

theorem rowB_later {w w' : World} {B e size n : Nat} {v : Value} {xs : List Value} (h : w.ownsRow B e size v n xs) (hb : Below w.heap.size w w') : w'.ownsRow B e size v n xs := by
  refine ⟨h.1, ?_⟩
  rcases h.2 with h2 | ⟨g, cap, cur, h3, h4, h5, h6⟩
  · exact .inl h2
  · exact .inr ⟨g, cap, cur, h3, h4, by rw [hb.block g (Array.getElem?_eq_some_iff.1 h5).1]; exact h5, h6⟩
def mixB (A B : Nat → Bool) (k : Nat) (i : Nat) : Bool := if i < k then A i || B i else A i
def rowB (m : Nat) (S : Nat → Bool) : List Value := bl ((List.range m).map S)
theorem rowB_get (S : Nat → Bool) {m i : Nat} (h : i < m) : (rowB m S)[i]? = some (.bool (S i)) := by simp [rowB, bl, h]
theorem rowB_set (A B : Nat → Bool) {m k : Nat} (h : k < m) : (rowB m (mixB A B k)).set k (.bool (A k || B k)) = rowB m (mixB A B (k + 1)) := by
  apply List.ext_getElem?
  intro i
  rw [List.getElem?_set]
  by_cases hi : k = i
  · subst hi
    rw [if_pos rfl, rowB_get _ h]
    simp [rowB, bl, h, mixB]
  · rw [if_neg hi]
    by_cases him : i < m
    · rw [rowB_get _ him, rowB_get _ him]
      have e : mixB A B k i = mixB A B (k + 1) i := by
        unfold mixB
        by_cases h1 : i < k
        · rw [if_pos h1, if_pos (by omega)]
        · rw [if_neg h1, if_neg (by omega)]
      rw [e]
    · rw [List.getElem?_eq_none (by simp [rowB, bl]; omega), List.getElem?_eq_none (by simp [rowB, bl]; omega)]
theorem uni_filt {A B : List Nat} (ha : ∀ x ∈ A, x < 256) (hb : ∀ x ∈ B, x < 256) (ga : good A = true) (gb : good B = true) (hp : pIn A = pIn B) (hm : mIn A = mIn B) :
    uniL A B = filt (pIn A) (mIn A) (fun i => bitsOf A i || bitsOf B i) := by
  have e0 : uniE A B = 0 := by simp [uniE, ga, gb, hp, hm]
  unfold uniL
  rw [if_pos e0]
  have h1 := filt_is ha ga
  have h2 := filt_is hb gb
  rw [← hp, ← hm] at h2
  conv => lhs; rw [h1, h2]
  exact union_is _ _

set_option maxRecDepth 100000 in
set_option maxHeartbeats 1000000 in
theorem refUnion_any {va vb : Value} {A B : List Nat} {w : World} (ha : Rd w va A) (hb : Rd w vb B) :
    Calls Try.prog 28 #[va, vb] w fun e w' => ∃ a m c, e = .returned (.tuple #[.slice a m c, .int .i64 ((uniE A B : Nat) : Int)]) ∧ Own w' w.heap.size (.slice a m c) m (uniL A B) ∧ Below w.heap.size w w' := by
  have own0 : ∀ wx : World, Own wx w.heap.size (.slice none 0 0) 0 [] := fun wx => ⟨rfl, World.ownsRow_nil _ _ _ _⟩
  obtain ⟨a0, n0, c0, rfl⟩ : ∃ a n cap, va = .slice a n cap := by obtain ⟨_, a1, c1, h2, _⟩ := ha; exact ⟨_, _, _, h2⟩
  obtain ⟨a9, n9, c9, rfl⟩ : ∃ a n cap, vb = .slice a n cap := by obtain ⟨_, a1, c1, h2, _⟩ := hb; exact ⟨_, _, _, h2⟩
  have HB0 : good B = false → Hid (∀ wx, Below w.heap.size w wx → Calls Try.prog 45 #[.slice a9 n9 c9] wx fun e w' => e = .returned (.tuple #[.int .i64 0, .slice none 0 0, .bool false]) ∧ Below w.heap.size w w') := fun hg wx hx => (refRead_bad (hb.later hx) hg).mono fun e w' h => ⟨h.1, hx.trans (h.2.mono hx.size)⟩
  have HB1 : good B = true → Hid (∀ wx, Below w.heap.size w wx → Calls Try.prog 45 #[.slice a9 n9 c9] wx fun e w' => ∃ g c, e = .returned (.tuple #[.int .i64 ((pIn B : Nat) : Int), .slice (some ⟨g, 0, none⟩) (mIn B) c, .bool true]) ∧ wx.heap.size ≤ g ∧ g < w'.heap.size ∧ (∀ i, i < mIn B → w'.cell? ⟨g, i, none⟩ = some (.bool (bitsOf B i))) ∧ Below wx.heap.size wx w' ∧ Below w.heap.size w w') := fun hg wx hx => (refRead_good (hb.later hx) hg).mono fun e w' ⟨g, c, h, h1, h2, _, _, _, h6, h7⟩ => ⟨g, c, h, h1, h2, h6, h7, hx.trans (h7.mono hx.size)⟩
  cases hga : good A with
  | false =>
    have hE : uniE A B = 62 := by simp [uniE, hga]
    have hL : uniL A B = [] := by simp [uniL, hE]
    rw [hE, hL]
    have HA : Hid (Calls Try.prog 45 #[.slice a0 n0 c0] w fun e w' => e = .returned (.tuple #[.int .i64 0, .slice none 0 0, .bool false]) ∧ Below w.heap.size w w') := refRead_bad ha hga
    cases hgb : good B with
    | false =>
      have HB := HB0 hgb
      clear HB0 HB1 hE hL hga hgb ha hb
      go_enter Try.func28, Try.ntmps28
      go_wp2_with (first | (go_at_call_of 45 (Value.slice a9 n9 c9); refine Calls.mono (HB.out _ b1) ?_; rintro e2 w2 ⟨rfl, b2⟩) | (go_at_call_of 45 (Value.slice a0 n0 c0); refine Calls.mono HA.out ?_; rintro e1 w1 ⟨rfl, b1⟩))
      refine bodyPost_ret (v := .tuple #[.slice none 0 0, .int .i64 62]) ?_ rfl ⟨none, 0, 0, rfl, own0 _, b2⟩
      simp [results, Try.results28, go_sem]
    | true =>
      have HB := HB1 hgb
      clear HB0 HB1 hE hL hga hgb ha hb
      go_enter Try.func28, Try.ntmps28
      go_wp2_with (first | (go_at_call_of 45 (Value.slice a9 n9 c9); refine Calls.mono (HB.out _ b1) ?_; rintro e2 w2 ⟨g2, c2, rfl, _, _, _, _, b2⟩) | (go_at_call_of 45 (Value.slice a0 n0 c0); refine Calls.mono HA.out ?_; rintro e1 w1 ⟨rfl, b1⟩))
      refine bodyPost_ret (v := .tuple #[.slice none 0 0, .int .i64 62]) ?_ rfl ⟨none, 0, 0, rfl, own0 _, b2⟩
      simp [results, Try.results28, go_sem]
  | true =>
    have HA : Hid (Calls Try.prog 45 #[.slice a0 n0 c0] w fun e w' => ∃ g c, e = .returned (.tuple #[.int .i64 ((pIn A : Nat) : Int), .slice (some ⟨g, 0, none⟩) (mIn A) c, .bool true]) ∧ w.heap.size ≤ g ∧ g < w'.heap.size ∧ mIn A ≤ c ∧ w'.ownsRow w.heap.size 4 1 (.slice (some ⟨g, 0, none⟩) (mIn A) c) (mIn A) (rowB (mIn A) (bitsOf A)) ∧ Below w.heap.size w w') := (refRead_good ha hga).mono fun e w' ⟨g, c, h, h1, h2, h3, _, h5, _, h7⟩ => ⟨g, c, h, h1, h2, h3, h5, h7⟩
    cases hgb : good B with
    | false =>
      have hE : uniE A B = 62 := by simp [uniE, hgb]
      have hL : uniL A B = [] := by simp [uniL, hE]
      rw [hE, hL]
      have HB := HB0 hgb
      clear HB0 HB1 hE hL hga hgb ha hb
      go_enter Try.func28, Try.ntmps28
      go_wp2_with (first | (go_at_call_of 45 (Value.slice a9 n9 c9); refine Calls.mono (HB.out _ b1) ?_; rintro e2 w2 ⟨rfl, b2⟩) | (go_at_call_of 45 (Value.slice a0 n0 c0); refine Calls.mono HA.out ?_; rintro e1 w1 ⟨g1, c1, rfl, _, _, _, _, b1⟩))
      refine bodyPost_ret (v := .tuple #[.slice none 0 0, .int .i64 62]) ?_ rfl ⟨none, 0, 0, rfl, own0 _, b2⟩
      simp [results, Try.results28, go_sem]
    | true =>
      have HB := HB1 hgb
      have hma := good_m hga
      by_cases hsame : pIn A = pIn B ∧ mIn A = mIn B
      · have hE : uniE A B = 0 := by simp [uniE, hga, hgb, hsame]
        have hL := uni_filt ha.1 hb.1 hga hgb hsame.1 hsame.2
        rw [hE, hL]
        rw [← hsame.1, ← hsame.2] at HB
        clear HB0 HB1 hE hL hga hgb ha hb hsame
        obtain ⟨hm1, hm2, hm8, -, hp2, -⟩ := hma
        generalize pIn A = p at *
        generalize mIn A = m at *
        generalize bitsOf A = SA at *
        generalize bitsOf B = SB at *
        go_enter Try.func28, Try.ntmps28
        go_wp2_with (first | (go_at_call_of 45 (Value.slice a9 n9 c9); refine Calls.mono (HB.out _ b1) ?_; rintro e2 w2 ⟨g2, c2, rfl, hg2, hg2l, hcB, b12, b2⟩) | (go_at_call_of 45 (Value.slice a0 n0 c0); refine Calls.mono HA.out ?_; rintro e1 w1 ⟨g1, c1, rfl, hg1, hg1l, hc1, own1, b1⟩))
        have HI0 : Hid (w2.ownsRow w.heap.size 4 1 (.slice (some ⟨g1, 0, none⟩) m c1) m (rowB m (mixB SA SB 0))) := by
          have e : rowB m (mixB SA SB 0) = rowB m SA := by unfold rowB mixB; simp
          have h : w2.ownsRow w.heap.size 4 1 (.slice (some ⟨g1, 0, none⟩) m c1) m (rowB m (mixB SA SB 0)) := by rw [e]; exact rowB_later own1 b12
          exact h
        have HCB : Hid (∀ i, i < m → w2.cell? ⟨g2, i, none⟩ = some (.bool (SB i))) := hcB
        have hne : g1 ≠ g2 := by omega
        clear hcB own1
        go_loopw [12] (fun i wr => ∃ k : Nat, k ≤ m ∧ i = .int .i64 (k : Int) ∧ Hid (wr.ownsRow w.heap.size 4 1 (.slice (some ⟨g1, 0, none⟩) m c1) m (rowB m (mixB SA SB k)) ∧ (∀ i, i < m → wr.cell? ⟨g2, i, none⟩ = some (.bool (SB i))) ∧ Below w.heap.size w wr)) (fun i _ => m - (intOf i).toNat)
        case atStart => exact ⟨0, Nat.zero_le _, rfl, HI0.out, HCB.out, b2⟩
        case round =>
          obtain ⟨k, hk, rfl, HI⟩ := hrel
          by_cases hlt : k < m
          · have hlt2 : (k : Int) < (m : Int) := by omega
            have q1 : wr.cell? ⟨g1, k, none⟩ = some (.bool (SA k)) := by
              rw [HI.out.1.cellAt k (by omega), rowB_get _ hlt]
              simp [mixB]
            have q2 := HI.out.2.1 k hlt
            have q3 := HI.out.1.frozenAt k
            have ST : Hid (∀ u, u = Value.bool (SA k || SB k) → ((wr.setCell ⟨g1, k, none⟩ u).ownsRow w.heap.size 4 1 (.slice (some ⟨g1, 0, none⟩) m c1) m (rowB m (mixB SA SB (k + 1))) ∧ (∀ i, i < m → (wr.setCell ⟨g1, k, none⟩ u).cell? ⟨g2, i, none⟩ = some (.bool (SB i))) ∧ Below w.heap.size w (wr.setCell ⟨g1, k, none⟩ u))) := by
              have h : ∀ u, u = Value.bool (SA k || SB k) → ((wr.setCell ⟨g1, k, none⟩ u).ownsRow w.heap.size 4 1 (.slice (some ⟨g1, 0, none⟩) m c1) m (rowB m (mixB SA SB (k + 1))) ∧ (∀ i, i < m → (wr.setCell ⟨g1, k, none⟩ u).cell? ⟨g2, i, none⟩ = some (.bool (SB i))) ∧ Below w.heap.size w (wr.setCell ⟨g1, k, none⟩ u)) := by
                intro u hu
                refine ⟨?_, fun i hi => ?_, HI.out.2.2.setCell (p := ⟨g1, k, none⟩) hg1 _⟩
                · rw [← rowB_set SA SB hlt, ← hu]
                  exact (HI.out.1.stored k u).1
                · have h3 := HI.out.2.1 i hi
                  unfold World.cell? at h3 ⊢
                  rw [heap_setCell_other wr ⟨g1, k, none⟩ g2 u (fun e => hne e.symm)]
                  exact h3
              exact h
            cases hs : SA k with
            | true =>
              rw [hs] at q1
              go_wp2
              go_roundw
              case rel => exact ⟨k + 1, by omega, by go_num, ST.out _ (by rw [hs]; rfl)⟩
              case measure => simp [intOf]; omega
            | false =>
              rw [hs] at q1
              go_wp2
              go_roundw
              case rel => exact ⟨k + 1, by omega, by go_num, ST.out _ (by rw [hs]; rfl)⟩
              case measure => simp [intOf]; omega
          · have hkm : k = m := by omega
            have hcA : ∀ i, i < m → wr.cell? ⟨g1, i, none⟩ = some (.bool (SA i || SB i)) := fun i hi => by
              rw [HI.out.1.cellAt i (by omega), rowB_get _ hi]
              simp [mixB, hkm, hi]
            have HLd : Hid (Calls Try.prog 44 #[.int .i64 (p : Int), .slice (some ⟨g1, 0, none⟩) m c1] wr fun e w' => ∃ a n c, e = .returned (.slice a n c) ∧ Own w' wr.heap.size (.slice a n c) n (filt p m (fun i => SA i || SB i)) ∧ Below wr.heap.size wr w') := refLaid_any hcA hc1 hp2 hm1 hm2 hm8
            clear hcA
            subst hkm
            go_wp2_with (go_at_call 44; refine Calls.mono HLd.out ?_; rintro e3 w3 ⟨a3, n3, c3, rfl, own3, b3⟩)
            have sz := HI.out.2.2.size
            refine bodyPost_ret (v := .tuple #[.slice a3 n3 c3, .int .i64 0]) ?_ rfl ⟨a3, n3, c3, rfl, own3.mono sz, HI.out.2.2.trans (b3.mono sz)⟩
            simp [results, Try.results28, go_sem]
      · have hE : uniE A B = 63 := by simp [uniE, hga, hgb, hsame]
        have hL : uniL A B = [] := by simp [uniL, hE]
        rw [hE, hL]
        clear HB0 HB1 hE hL hga hgb ha hb hma
        generalize pIn A = p at *
        generalize mIn A = m at *
        generalize bitsOf A = SA at *
        generalize pIn B = q at *
        generalize mIn B = m' at *
        generalize bitsOf B = SB at *
        have hpq : ((p : Int) != (q : Int)) = true ∨ ((p : Int) != (q : Int)) = false ∧ ((m : Int) != (m' : Int)) = true := by
          by_cases e : p = q
          · refine .inr ⟨by simp [e], ?_⟩
            have : m ≠ m' := fun h => hsame ⟨e, h⟩
            simp; omega
          · refine .inl ?_
            simp; omega
        clear hsame
        rcases hpq with hpq | ⟨hpq, hmm⟩
        · go_enter Try.func28, Try.ntmps28
          go_wp2_with (first | (go_at_call_of 45 (Value.slice a9 n9 c9); refine Calls.mono (HB.out _ b1) ?_; rintro e2 w2 ⟨g2, c2, rfl, _, _, _, _, b2⟩) | (go_at_call_of 45 (Value.slice a0 n0 c0); refine Calls.mono HA.out ?_; rintro e1 w1 ⟨g1, c1, rfl, _, _, _, _, b1⟩))
          refine bodyPost_ret (v := .tuple #[.slice none 0 0, .int .i64 63]) ?_ rfl ⟨none, 0, 0, rfl, own0 _, b2⟩
          simp [results, Try.results28, go_sem]
        · go_enter Try.func28, Try.ntmps28
          go_wp2_with (first | (go_at_call_of 45 (Value.slice a9 n9 c9); refine Calls.mono (HB.out _ b1) ?_; rintro e2 w2 ⟨g2, c2, rfl, _, _, _, _, b2⟩) | (go_at_call_of 45 (Value.slice a0 n0 c0); refine Calls.mono HA.out ?_; rintro e1 w1 ⟨g1, c1, rfl, _, _, _, _, b1⟩))
          refine bodyPost_ret (v := .tuple #[.slice none 0 0, .int .i64 63]) ?_ rfl ⟨none, 0, 0, rfl, own0 _, b2⟩
          simp [results, Try.results28, go_sem]
end Go.Proofs.Ytieehdhinponcaa

namespace Go.Proofs.Ytieehdhinponcaa
open Go.RowKit
set_option linter.unusedVariables false

def marksL : List Nat := [91, 92, 93, 94, 95]
set_option maxRecDepth 100000 in
set_option maxHeartbeats 1000000 in
theorem wide_any {v : Value} {L : List Nat} {w : World} (hr : Rd w v L) (hl : L.length ≤ 140737488351232) :
    Calls Try.prog 23 #[v] w fun e w' => ∃ a m c, e = .returned (.slice a m c) ∧ Own w' w.heap.size (.slice a m c) m (L ++ marksL) ∧ Below w.heap.size w w' := by
  obtain ⟨a0, n0, c0, rfl⟩ : ∃ a n cap, v = .slice a n cap := by obtain ⟨_, a1, c1, h2, _⟩ := hr; exact ⟨_, _, _, h2⟩
  have hn : n0 = L.length := by obtain ⟨_, a1, c1, h2, _⟩ := hr; cases h2; rfl
  have own0 : Own w w.heap.size (.slice none 0 0) 0 [] := ⟨rfl, World.ownsRow_nil _ _ _ _⟩
  have HR : Hid (Rd w (.slice a0 n0 c0) L) := hr
  clear hr
  have hnl : n0 ≤ 140737488351232 := by omega
  have HN : Hid (n0 = L.length) := hn
  clear hl hn
  go_enter Try.func23, Try.ntmps23
  go_wp2_with (first | (have X1 := own1; at_builtin; refine wpList_append_new rfl _ _ rfl w.heap.size _ _ _ _ rfl own1 _ 5 rfl marksL (by simp [bv, marksL]) rfl (by omega) b1.size ?_; intro a2 m2 c2 w2 own2 b2) | (at_builtin; refine wpList_append_at rfl _ _ rfl w.heap.size _ _ _ _ rfl own0 _ _ _ _ rfl HR.out (by omega) (Nat.le_refl _) ?_; intro a1 m1 c1 w1 own1 b1; have hm1 : m1 ≤ 140737488351232 := by (have := own1.1; have := HN.out; simp at *; omega)))
  go_ret
  exact ⟨a2, m2, c2, rfl, by simpa using own2, b1.trans b2⟩
end Go.Proofs.Ytieehdhinponcaa

namespace Go.Proofs.Ytieehdhinponcaa
open Go.RowKit
set_option linter.unusedVariables false

theorem Rd.sub {w : World} {b off n cap : Nat} {bs : List Nat} (h : Rd w (.slice (some ⟨b, off, none⟩) n cap) bs) (i j : Nat) (hij : i ≤ j) (hj : j ≤ n) {off' n' cap' : Nat}
    (ho : off' = off + i) (hn : n' = j - i) (hc : cap' = cap - i) : Rd w (.slice (some ⟨b, off', none⟩) n' cap') ((bs.take j).drop i) := by
  obtain ⟨h1, a0, cap0, h2, h3, h4, h5, h6, h7⟩ := h
  simp only [Value.slice.injEq] at h2
  obtain ⟨rfl, rfl, rfl⟩ := h2
  have hl : ((bs.take j).drop i).length = j - i := by simp; omega
  subst ho hn hc
  refine ⟨fun x hx => h1 x (List.mem_of_mem_take (List.mem_of_mem_drop hx)), _, cap - i, by rw [hl], by rw [hl]; omega, Nat.le_trans (Nat.sub_le _ _) h4, by rw [hl]; omega, .inr ⟨b, off + i, rfl⟩, ?_⟩
  rcases h7 with rfl | ⟨b', off', h8, hcell⟩
  · exact .inl (by simp)
  · cases h8
    refine .inr ⟨b, off + i, rfl, fun k hk => ?_⟩
    rw [hl] at hk
    have := hcell (i + k) (by omega)
    rw [Nat.add_assoc, this]
    simp [List.getElem?_take_of_lt (show i + k < j by omega)]
theorem Rd.upto {w : World} {b off n cap : Nat} {bs : List Nat} (h : Rd w (.slice (some ⟨b, off, none⟩) n cap) bs) (j : Nat) (hj : j ≤ n) : Rd w (.slice (some ⟨b, off, none⟩) j cap) (bs.take j) := by
  have := h.sub 0 j (Nat.zero_le _) hj (off' := off) (n' := j) (cap' := cap) rfl (by omega) (by omega)
  simpa using this
theorem Rd.past {w : World} {b off n cap : Nat} {bs : List Nat} (h : Rd w (.slice (some ⟨b, off, none⟩) n cap) bs) (i : Nat) (hi : i ≤ n) {off' n' cap' : Nat}
    (ho : off' = off + i) (hn : n' = n - i) (hc : cap' = cap - i) : Rd w (.slice (some ⟨b, off', none⟩) n' cap') (bs.drop i) := by
  have hl : n = bs.length := by obtain ⟨_, _, _, h2, _⟩ := h; simp only [Value.slice.injEq] at h2; exact h2.2.1
  have := h.sub i n hi (Nat.le_refl _) ho hn hc
  rwa [hl, List.take_length] at this
/-- Nothing is read of an empty slice, whatever its address. -/
theorem Rd.empty (w : World) (b off : Nat) (cap : Nat) (hc : cap ≤ maxLen) : Rd w (.slice (some ⟨b, off, none⟩) 0 cap) [] :=
  ⟨fun x hx => by simp at hx, _, cap, rfl, Nat.zero_le _, hc, by simp, .inr ⟨b, off, rfl⟩, .inl rfl⟩

theorem rd_lens {w : World} {a : Option Addr} {n cap : Nat} {bs : List Nat} (h : Rd w (.slice a n cap) bs) : n = bs.length ∧ n ≤ cap ∧ cap ≤ maxLen ∧ n ≤ 281474976710656 := by
  obtain ⟨_, a1, c1, h2, hle, hm, hl48, _⟩ := h
  simp only [Value.slice.injEq] at h2
  obtain ⟨rfl, rfl, rfl⟩ := h2
  exact ⟨rfl, hle, hm, hl48⟩
theorem rd_slice {w : World} {v : Value} {bs : List Nat} (h : Rd w v bs) : ∃ a n cap, v = .slice a n cap := by
  obtain ⟨_, a1, c1, h2, _⟩ := h
  exact ⟨_, _, _, h2⟩
theorem rd_some {w : World} {a : Option Addr} {n cap : Nat} {bs : List Nat} (h : Rd w (.slice a n cap) bs) : (cap = 0 ∧ n = 0 ∧ bs = []) ∨ ∃ b off, a = some ⟨b, off, none⟩ := by
  obtain ⟨_, a1, c1, h2, hle, hm, hl48, hn, hat⟩ := h
  simp only [Value.slice.injEq] at h2
  obtain ⟨rfl, rfl, rfl⟩ := h2
  rcases hn with rfl | ⟨b, off, rfl⟩
  · exact .inl ⟨rfl, by omega, List.eq_nil_of_length_eq_zero (by omega)⟩
  · exact .inr ⟨b, off, rfl⟩
theorem rd_cell {w : World} {b off n cap : Nat} {bs : List Nat} (h : Rd w (.slice (some ⟨b, off, none⟩) n cap) bs) (i : Nat) (hi : i < n) : w.cell? ⟨b, off + i, none⟩ = some (.int .u8 ((bs.getD i 0 : Nat) : Int)) ∧ bs.getD i 0 < 256 := by
  obtain ⟨h1, a0, cap0, h2, h3, h4, h5, h6, h7⟩ := h
  simp only [Value.slice.injEq] at h2
  obtain ⟨rfl, rfl, rfl⟩ := h2
  rcases h7 with rfl | ⟨b', off', h8, hcell⟩
  · simp at hi
  · cases h8
    exact ⟨hcell i hi, h1.get i⟩
theorem marks_bys : Bys marksL := by intro x hx; simp [marksL] at hx; omega
set_option maxRecDepth 100000 in
set_option maxHeartbeats 1000000 in
theorem kept_any {g off n c : Nat} {a0 : Option Addr} {c0 : Nat} {L : List Nat} {w : World} (hw : Rd w (.slice (some ⟨g, off, none⟩) (n + 5) c) (L ++ marksL)) (hr : Rd w (.slice a0 n c0) L) :
    Calls Try.prog 29 #[.slice (some ⟨g, off, none⟩) (n + 5) c, .slice a0 n c0] w fun e w' => e = .returned (.bool true) ∧ Below w.heap.size w w' := by
  obtain ⟨hn, hle0, hc0, hl0⟩ := rd_lens hr
  obtain ⟨hn5, hle5, hc5, hl5⟩ := rd_lens hw
  have RU := hw.upto n (by omega)
  rw [show (L ++ marksL).take n = L by rw [hn]; simp] at RU
  have hcm : c ≤ 9223372036854775807 := hc5
  have H1 : Hid (∀ wx, Below w.heap.size w wx → Calls Try.prog 18 #[.slice (some ⟨g, off, none⟩) n c, .slice a0 n c0] wx fun e w' => e = .returned (.bool true) ∧ w' = wx) := by
    have h : ∀ wx, Below w.heap.size w wx → Calls Try.prog 18 #[.slice (some ⟨g, off, none⟩) n c, .slice a0 n c0] wx fun e w' => e = .returned (.bool true) ∧ w' = wx := fun wx hx =>
      (alike_any (RU.later hx) (hr.later hx)).mono fun e w' h => ⟨by rw [h.1]; simp, h.2⟩
    exact h
  have HW : Hid (Rd w (.slice (some ⟨g, off, none⟩) (n + 5) c) (L ++ marksL)) := hw
  have HN : Hid (n = L.length) := hn
  clear hw hr hn RU hn5
  go_enter Try.func29, Try.ntmps29
  go_wp2_with (go_at_call_of 18 (Value.slice (some ⟨g, off, none⟩) n c); refine Calls.mono (H1.out _ (Below.refl _ _)) ?_; rintro e1 w1 ⟨rfl, rfl⟩)
  have bm : Below w1.heap.size w1 (w1.alloc (.cells #[.int .u8 91, .int .u8 92, .int .u8 93, .int .u8 94, .int .u8 95] 5)) := (Below.refl _ _).alloc (Nat.le_refl _) _
  have RP := (HW.out.past n (by omega) (off' := off + n) (n' := 5) (cap' := c - n) rfl (by omega) rfl).later bm
  rw [show (L ++ marksL).drop n = marksL by rw [HN.out]; simp] at RP
  have RM : Rd (w1.alloc (.cells #[.int .u8 91, .int .u8 92, .int .u8 93, .int .u8 94, .int .u8 95] 5)) (.slice (some ⟨w1.heap.size, 0, none⟩) 5 5) marksL := by
    refine rd_lit rfl marks_bys (by decide) fun i hi => ?_
    rw [Joins.cell_of_block (World.alloc_heap_new w1 _)]
    have h5 : i < 5 := hi
    match i, h5 with
    | 0, _ => rfl
    | 1, _ => rfl
    | 2, _ => rfl
    | 3, _ => rfl
    | 4, _ => rfl
  refine Calls.mono (alike_any RP RM) ?_
  rintro e2 w2 ⟨rfl, rfl⟩
  rw [show decide (marksL = marksL) = true by simp]
  go_wp2
  go_ret
  exact ⟨rfl, bm⟩
end Go.Proofs.Ytieehdhinponcaa

namespace Go.Proofs.Ytieehdhinponcaa
open Go.RowKit
set_option linter.unusedVariables false

theorem wide_at {a0 : Option Addr} {n0 c0 : Nat} {L : List Nat} {w : World} (hr : Rd w (.slice a0 n0 c0) L) (hl : n0 ≤ 140737488351232) :
    Calls Try.prog 23 #[.slice a0 n0 c0] w fun e w' => ∃ g c, e = .returned (.slice (some ⟨g, 0, none⟩) (n0 + 5) c) ∧ Rd w' (.slice (some ⟨g, 0, none⟩) (n0 + 5) c) (L ++ marksL) ∧ Below w.heap.size w w' := by
  obtain ⟨hn, hle0, hc0, hl0⟩ := rd_lens hr
  refine (wide_any hr (by omega)).mono ?_
  rintro e w' ⟨a, m, c, rfl, own, b⟩
  have hm : m = n0 + 5 := by rw [own.1, hn]; simp [marksL]
  subst hm
  have hby : Bys (L ++ marksL) := by
    intro x hx
    rcases List.mem_append.1 hx with h | h
    · exact hr.1 x h
    · exact marks_bys x h
  rcases own.2.2 with ⟨h1, h2⟩ | ⟨g, cap, cur, h1, _⟩
  · omega
  · cases h1
    exact ⟨g, c, rfl, own.rd hby (by omega), b⟩

set_option maxRecDepth 100000 in
set_option maxHeartbeats 1000000 in
theorem asked3 {aF aG : Option Addr} {nF cF nG cG : Nat} {F G : List Nat} {N : Int} {ks : Value} {w : World} (hF : Rd w (.slice aF nF cF) F) (hG : Rd w (.slice aG nG cG) G) (lF : nF ≤ 140737488351232) (lG : nG ≤ 140737488351232) :
    Calls Try.prog 46 #[.agg #[.int .i64 3, .int .i64 N, ks, .slice aF nF cF, .slice aG nG cG]] w fun e w' => e = .returned (.bool true) ∧ Below w.heap.size w w' := by
  obtain ⟨W0, hW0⟩ : ∃ W0, W0 = w.alloc (.cells #[.int .i64 3, .int .i64 N, ks, .slice aF nF cF, .slice aG nG cG] 42) := ⟨_, rfl⟩
  have b0 : Below w.heap.size w W0 := by rw [hW0]; exact (Below.refl _ _).alloc (Nat.le_refl _) _
  have hsz : w.heap.size < W0.heap.size := by rw [hW0]; simp
  have HK : Hid (∀ wx, Below W0.heap.size W0 wx → wx.cell? ⟨w.heap.size, 0, none⟩ = some (.int .i64 3) ∧ wx.cell? ⟨w.heap.size, 3, none⟩ = some (.slice aF nF cF) ∧ wx.cell? ⟨w.heap.size, 4, none⟩ = some (.slice aG nG cG)) := by
    have h : ∀ wx, Below W0.heap.size W0 wx → wx.cell? ⟨w.heap.size, 0, none⟩ = some (.int .i64 3) ∧ wx.cell? ⟨w.heap.size, 3, none⟩ = some (.slice aF nF cF) ∧ wx.cell? ⟨w.heap.size, 4, none⟩ = some (.slice aG nG cG) := fun wx hx => by
      refine ⟨(hx.cell (p := ⟨w.heap.size, 0, none⟩) hsz).trans ?_, (hx.cell (p := ⟨w.heap.size, 3, none⟩) hsz).trans ?_, (hx.cell (p := ⟨w.heap.size, 4, none⟩) hsz).trans ?_⟩
      all_goals (rw [hW0, Joins.cell_of_block (World.alloc_heap_new w _)]; rfl)
    exact h
  have RF : Hid (∀ wx, Below W0.heap.size W0 wx → Rd wx (.slice aF nF cF) F) := by
    have h : ∀ wx, Below W0.heap.size W0 wx → Rd wx (.slice aF nF cF) F := fun wx hx => (hF.later b0).later hx
    exact h
  have RG : Hid (∀ wx, Below W0.heap.size W0 wx → Rd wx (.slice aG nG cG) G) := by
    have h : ∀ wx, Below W0.heap.size W0 wx → Rd wx (.slice aG nG cG) G := fun wx hx => (hG.later b0).later hx
    exact h
  clear hF hG hsz
  go_enter Try.func46, Try.ntmps46
  go_wp2_with (first | (go_at_call_of 23 (Value.slice aF nF cF); rw [← hW0]; clear hW0; refine Calls.mono (wide_at (RF.out _ (Below.refl _ _)) lF) ?_; rintro e1 w1 ⟨g1, c1, rfl, r1, b1⟩; obtain ⟨q10, q13, q14⟩ := HK.out _ b1) | (have BB := b1; go_at_call_of 23 (Value.slice aG nG cG); refine Calls.mono (wide_at (RG.out _ b1) lG) ?_; rintro e2 w2 ⟨g2, c2, rfl, r2, b2⟩; obtain ⟨q20, q23, q24⟩ := HK.out _ (b1.trans (b2.mono b1.size))))
  have B2 := b1.trans (b2.mono b1.size)
  have HR1 : Hid (∀ wx, Below w2.heap.size w2 wx → Rd wx (.slice (some ⟨g1, 0, none⟩) (nF + 5) c1) (F ++ marksL)) := by
    have h : ∀ wx, Below w2.heap.size w2 wx → Rd wx (.slice (some ⟨g1, 0, none⟩) (nF + 5) c1) (F ++ marksL) := fun wx hx => (r1.later b2).later hx
    exact h
  have HR2 : Hid (∀ wx, Below w2.heap.size w2 wx → Rd wx (.slice (some ⟨g2, 0, none⟩) (nG + 5) c2) (G ++ marksL)) := by
    have h : ∀ wx, Below w2.heap.size w2 wx → Rd wx (.slice (some ⟨g2, 0, none⟩) (nG + 5) c2) (G ++ marksL) := fun wx hx => r2.later hx
    exact h
  obtain ⟨hn1, hle1, hcm1, -⟩ := rd_lens r1
  obtain ⟨hn2, hle2, hcm2, -⟩ := rd_lens r2
  have HF2 : Hid (∀ wx, Below w2.heap.size w2 wx → Rd wx (.slice aF nF cF) F) := by
    have h : ∀ wx, Below w2.heap.size w2 wx → Rd wx (.slice aF nF cF) F := fun wx hx => (RF.out _ B2).later hx
    exact h
  have HG2 : Hid (∀ wx, Below w2.heap.size w2 wx → Rd wx (.slice aG nG cG) G) := by
    have h : ∀ wx, Below w2.heap.size w2 wx → Rd wx (.slice aG nG cG) G := fun wx hx => (RG.out _ B2).later hx
    exact h
  have HK2 : Hid (∀ wx, Below w2.heap.size w2 wx → wx.cell? ⟨w.heap.size, 3, none⟩ = some (.slice aF nF cF) ∧ wx.cell? ⟨w.heap.size, 4, none⟩ = some (.slice aG nG cG)) := by
    have h : ∀ wx, Below w2.heap.size w2 wx → wx.cell? ⟨w.heap.size, 3, none⟩ = some (.slice aF nF cF) ∧ wx.cell? ⟨w.heap.size, 4, none⟩ = some (.slice aG nG cG) := fun wx hx => (HK.out _ (B2.trans (hx.mono B2.size))).2
    exact h
  have BW : Hid (∀ wx, Below w2.heap.size w2 wx → Below w.heap.size w wx) := by
    have h : ∀ wx, Below w2.heap.size w2 wx → Below w.heap.size w wx := fun wx hx => b0.trans ((B2.mono b0.size).trans (hx.mono (Nat.le_trans b0.size B2.size)))
    exact h
  have hlF := (rd_lens (RF.out _ B2)).1
  have hlG := (rd_lens (RG.out _ B2)).1
  have HU : Hid (∀ wx, Below w2.heap.size w2 wx → Rd wx (.slice (some ⟨g1, 0, none⟩) nF c1) F) := by
    have h : ∀ wx, Below w2.heap.size w2 wx → Rd wx (.slice (some ⟨g1, 0, none⟩) nF c1) F := fun wx hx => by
      have := (HR1.out wx hx).upto nF (by omega)
      rwa [show (F ++ marksL).take nF = F by rw [hlF]; simp] at this
    exact h
  have HV : Hid (∀ wx, Below w2.heap.size w2 wx → Rd wx (.slice (some ⟨g2, 0, none⟩) nG c2) G) := by
    have h : ∀ wx, Below w2.heap.size w2 wx → Rd wx (.slice (some ⟨g2, 0, none⟩) nG c2) G := fun wx hx => by
      have := (HR2.out wx hx).upto nG (by omega)
      rwa [show (G ++ marksL).take nG = G by rw [hlG]; simp] at this
    exact h
  have HCk : Hid (∀ wx, Below w2.heap.size w2 wx → Calls Try.prog 17 #[.slice (some ⟨g1, 0, none⟩) nF c1] wx fun e w' => e = .returned (.int .i64 ((chkE F : Nat) : Int)) ∧ Below w2.heap.size w2 w') := by
    have h : ∀ wx, Below w2.heap.size w2 wx → Calls Try.prog 17 #[.slice (some ⟨g1, 0, none⟩) nF c1] wx fun e w' => e = .returned (.int .i64 ((chkE F : Nat) : Int)) ∧ Below w2.heap.size w2 w' := fun wx hx => (check_any (HU.out wx hx)).mono fun e w' h => ⟨h.1, hx.trans (h.2.mono hx.size)⟩
    exact h
  have HRk : Hid (∀ wx, Below w2.heap.size w2 wx → Calls Try.prog 26 #[.slice aF nF cF] wx fun e w' => e = .returned (.int .i64 ((chkE F : Nat) : Int)) ∧ Below w2.heap.size w2 w') := by
    have h : ∀ wx, Below w2.heap.size w2 wx → Calls Try.prog 26 #[.slice aF nF cF] wx fun e w' => e = .returned (.int .i64 ((chkE F : Nat) : Int)) ∧ Below w2.heap.size w2 w' := fun wx hx => (refCheck_any (HF2.out wx hx)).mono fun e w' h => ⟨h.1, hx.trans (h.2.mono hx.size)⟩
    exact h
  have bd : Below w2.heap.size w2 w2.drew := (Below.refl _ _).drew
  have p0 := HK2.out _ bd
  have i1 : (0 : Int) ≤ (nF : Int) := by omega
  have i2 : (nF : Int) ≤ (c1 : Int) := by omega
  have i3 : (0 : Int) ≤ (nG : Int) := by omega
  have i4 : (nG : Int) ≤ (c2 : Int) := by omega
  obtain ⟨E, hE⟩ : ∃ E, E = chkE F := ⟨_, rfl⟩
  rw [← hE] at HCk HRk
  clear hn1 hn2 hlF hlG hE RF RG HK b0 b1 b2 B2 r1 r2 q10 q13 q14 q20 q23 q24
  go_region_held3 (fun wx => wx.cell? ⟨w.heap.size, 3, none⟩ = some (.slice aF nF cF)) (first | exact p0.1 | exact p3 | exact p5) (first | (go_at_call 17; refine Calls.mono (HCk.out _ bd) ?_; rintro e3 w3 ⟨rfl, b3⟩; have p3 := (HK2.out _ b3).1) | (go_at_call 14; refine Calls.mono (num_any _ _) ?_; rintro e4 w4 ⟨rfl, rfl⟩) | (go_at_call 26; refine Calls.mono (HRk.out _ b3) ?_; rintro e5 w5 ⟨rfl, b5⟩; have p5 := (HK2.out _ b5).1))
  have s3 := (HK2.out _ b5).1
  have s4 := (HK2.out _ b5).2
  go_wp2_with (go_at_call_of 29 (Value.slice (some ⟨g1, 0, none⟩) (nF + 5) c1); fail)
  refine Calls.mono (kept_any (HR1.out _ b5) (HF2.out _ b5)) ?_
  rintro e6 w6 ⟨rfl, b6⟩
  have B6 := (b5).trans (b6.mono (b5).size)
  have s46 := (HK2.out _ B6).2
  go_wp2_with (go_at_call_of 29 (Value.slice (some ⟨g2, 0, none⟩) (nG + 5) c2); fail)
  refine Calls.mono (kept_any (HR2.out _ B6) (HG2.out _ B6)) ?_
  rintro e7 w7 ⟨rfl, b7⟩
  go_wp2
  go_ret
  exact ⟨rfl, BW.out _ (B6.trans (b7.mono B6.size))⟩

set_option maxRecDepth 100000 in
set_option maxHeartbeats 1000000 in
theorem asked5 {aF aG : Option Addr} {nF cF nG cG : Nat} {F G : List Nat} {N : Int} {ks : Value} {w : World} (hF : Rd w (.slice aF nF cF) F) (hG : Rd w (.slice aG nG cG) G) (lF : nF ≤ 140737488351232) (lG : nG ≤ 140737488351232) :
    Calls Try.prog 46 #[.agg #[.int .i64 5, .int .i64 N, ks, .slice aF nF cF, .slice aG nG cG]] w fun e w' => e = .returned (.bool true) ∧ Below w.heap.size w w' := by
  obtain ⟨W0, hW0⟩ : ∃ W0, W0 = w.alloc (.cells #[.int .i64 5, .int .i64 N, ks, .slice aF nF cF, .slice aG nG cG] 42) := ⟨_, rfl⟩
  have b0 : Below w.heap.size w W0 := by rw [hW0]; exact (Below.refl _ _).alloc (Nat.le_refl _) _
  have hsz : w.heap.size < W0.heap.size := by rw [hW0]; simp
  have HK : Hid (∀ wx, Below W0.heap.size W0 wx → wx.cell? ⟨w.heap.size, 0, none⟩ = some (.int .i64 5) ∧ wx.cell? ⟨w.heap.size, 3, none⟩ = some (.slice aF nF cF) ∧ wx.cell? ⟨w.heap.size, 4, none⟩ = some (.slice aG nG cG)) := by
    have h : ∀ wx, Below W0.heap.size W0 wx → wx.cell? ⟨w.heap.size, 0, none⟩ = some (.int .i64 5) ∧ wx.cell? ⟨w.heap.size, 3, none⟩ = some (.slice aF nF cF) ∧ wx.cell? ⟨w.heap.size, 4, none⟩ = some (.slice aG nG cG) := fun wx hx => by
      refine ⟨(hx.cell (p := ⟨w.heap.size, 0, none⟩) hsz).trans ?_, (hx.cell (p := ⟨w.heap.size, 3, none⟩) hsz).trans ?_, (hx.cell (p := ⟨w.heap.size, 4, none⟩) hsz).trans ?_⟩
      all_goals (rw [hW0, Joins.cell_of_block (World.alloc_heap_new w _)]; rfl)
    exact h
  have RF : Hid (∀ wx, Below W0.heap.size W0 wx → Rd wx (.slice aF nF cF) F) := by
    have h : ∀ wx, Below W0.heap.size W0 wx → Rd wx (.slice aF nF cF) F := fun wx hx => (hF.later b0).later hx
    exact h
  have RG : Hid (∀ wx, Below W0.heap.size W0 wx → Rd wx (.slice aG nG cG) G) := by
    have h : ∀ wx, Below W0.heap.size W0 wx → Rd wx (.slice aG nG cG) G := fun wx hx => (hG.later b0).later hx
    exact h
  clear hF hG hsz
  go_enter Try.func46, Try.ntmps46
  go_wp2_with (first | (go_at_call_of 23 (Value.slice aF nF cF); rw [← hW0]; clear hW0; refine Calls.mono (wide_at (RF.out _ (Below.refl _ _)) lF) ?_; rintro e1 w1 ⟨g1, c1, rfl, r1, b1⟩; obtain ⟨q10, q13, q14⟩ := HK.out _ b1) | (have BB := b1; go_at_call_of 23 (Value.slice aG nG cG); refine Calls.mono (wide_at (RG.out _ b1) lG) ?_; rintro e2 w2 ⟨g2, c2, rfl, r2, b2⟩; obtain ⟨q20, q23, q24⟩ := HK.out _ (b1.trans (b2.mono b1.size))))
  have B2 := b1.trans (b2.mono b1.size)
  have HR1 : Hid (∀ wx, Below w2.heap.size w2 wx → Rd wx (.slice (some ⟨g1, 0, none⟩) (nF + 5) c1) (F ++ marksL)) := by
    have h : ∀ wx, Below w2.heap.size w2 wx → Rd wx (.slice (some ⟨g1, 0, none⟩) (nF + 5) c1) (F ++ marksL) := fun wx hx => (r1.later b2).later hx
    exact h
  have HR2 : Hid (∀ wx, Below w2.heap.size w2 wx → Rd wx (.slice (some ⟨g2, 0, none⟩) (nG + 5) c2) (G ++ marksL)) := by
    have h : ∀ wx, Below w2.heap.size w2 wx → Rd wx (.slice (some ⟨g2, 0, none⟩) (nG + 5) c2) (G ++ marksL) := fun wx hx => r2.later hx
    exact h
  obtain ⟨hn1, hle1, hcm1, -⟩ := rd_lens r1
  obtain ⟨hn2, hle2, hcm2, -⟩ := rd_lens r2
  have HF2 : Hid (∀ wx, Below w2.heap.size w2 wx → Rd wx (.slice aF nF cF) F) := by
    have h : ∀ wx, Below w2.heap.size w2 wx → Rd wx (.slice aF nF cF) F := fun wx hx => (RF.out _ B2).later hx
    exact h
  have HG2 : Hid (∀ wx, Below w2.heap.size w2 wx → Rd wx (.slice aG nG cG) G) := by
    have h : ∀ wx, Below w2.heap.size w2 wx → Rd wx (.slice aG nG cG) G := fun wx hx => (RG.out _ B2).later hx
    exact h
  have HK2 : Hid (∀ wx, Below w2.heap.size w2 wx → wx.cell? ⟨w.heap.size, 3, none⟩ = some (.slice aF nF cF) ∧ wx.cell? ⟨w.heap.size, 4, none⟩ = some (.slice aG nG cG)) := by
    have h : ∀ wx, Below w2.heap.size w2 wx → wx.cell? ⟨w.heap.size, 3, none⟩ = some (.slice aF nF cF) ∧ wx.cell? ⟨w.heap.size, 4, none⟩ = some (.slice aG nG cG) := fun wx hx => (HK.out _ (B2.trans (hx.mono B2.size))).2
    exact h
  have BW : Hid (∀ wx, Below w2.heap.size w2 wx → Below w.heap.size w wx) := by
    have h : ∀ wx, Below w2.heap.size w2 wx → Below w.heap.size w wx := fun wx hx => b0.trans ((B2.mono b0.size).trans (hx.mono (Nat.le_trans b0.size B2.size)))
    exact h
  have hlF := (rd_lens (RF.out _ B2)).1
  have hlG := (rd_lens (RG.out _ B2)).1
  have HU : Hid (∀ wx, Below w2.heap.size w2 wx → Rd wx (.slice (some ⟨g1, 0, none⟩) nF c1) F) := by
    have h : ∀ wx, Below w2.heap.size w2 wx → Rd wx (.slice (some ⟨g1, 0, none⟩) nF c1) F := fun wx hx => by
      have := (HR1.out wx hx).upto nF (by omega)
      rwa [show (F ++ marksL).take nF = F by rw [hlF]; simp] at this
    exact h
  have HV : Hid (∀ wx, Below w2.heap.size w2 wx → Rd wx (.slice (some ⟨g2, 0, none⟩) nG c2) G) := by
    have h : ∀ wx, Below w2.heap.size w2 wx → Rd wx (.slice (some ⟨g2, 0, none⟩) nG c2) G := fun wx hx => by
      have := (HR2.out wx hx).upto nG (by omega)
      rwa [show (G ++ marksL).take nG = G by rw [hlG]; simp] at this
    exact h
  have HCk : Hid (∀ wx, Below w2.heap.size w2 wx → Calls Try.prog 20 #[.slice (some ⟨g1, 0, none⟩) nF c1] wx fun e w' => e = .returned (.int .i64 ((onesL F : Nat) : Int)) ∧ Below w2.heap.size w2 w') := by
    have h : ∀ wx, Below w2.heap.size w2 wx → Calls Try.prog 20 #[.slice (some ⟨g1, 0, none⟩) nF c1] wx fun e w' => e = .returned (.int .i64 ((onesL F : Nat) : Int)) ∧ Below w2.heap.size w2 w' := fun wx hx => (ones_any (HU.out wx hx)).mono fun e w' h => ⟨h.1, hx.trans (h.2.mono hx.size)⟩
    exact h
  have HRk : Hid (∀ wx, Below w2.heap.size w2 wx → Calls Try.prog 27 #[.slice aF nF cF] wx fun e w' => e = .returned (.int .i64 ((onesL F : Nat) : Int)) ∧ Below w2.heap.size w2 w') := by
    have h : ∀ wx, Below w2.heap.size w2 wx → Calls Try.prog 27 #[.slice aF nF cF] wx fun e w' => e = .returned (.int .i64 ((onesL F : Nat) : Int)) ∧ Below w2.heap.size w2 w' := fun wx hx => (refOnes_any (HF2.out wx hx)).mono fun e w' h => ⟨h.1, hx.trans (h.2.mono hx.size)⟩
    exact h
  have bd : Below w2.heap.size w2 w2.drew := (Below.refl _ _).drew
  have p0 := HK2.out _ bd
  have i1 : (0 : Int) ≤ (nF : Int) := by omega
  have i2 : (nF : Int) ≤ (c1 : Int) := by omega
  have i3 : (0 : Int) ≤ (nG : Int) := by omega
  have i4 : (nG : Int) ≤ (c2 : Int) := by omega
  obtain ⟨E, hE⟩ : ∃ E, E = onesL F := ⟨_, rfl⟩
  rw [← hE] at HCk HRk
  clear hn1 hn2 hlF hlG hE RF RG HK b0 b1 b2 B2 r1 r2 q10 q13 q14 q20 q23 q24
  go_region_held3 (fun wx => wx.cell? ⟨w.heap.size, 3, none⟩ = some (.slice aF nF cF)) (first | exact p0.1 | exact p3 | exact p5) (first | (go_at_call 20; refine Calls.mono (HCk.out _ bd) ?_; rintro e3 w3 ⟨rfl, b3⟩; have p3 := (HK2.out _ b3).1) | (go_at_call 14; refine Calls.mono (num_any _ _) ?_; rintro e4 w4 ⟨rfl, rfl⟩) | (go_at_call 27; refine Calls.mono (HRk.out _ b3) ?_; rintro e5 w5 ⟨rfl, b5⟩; have p5 := (HK2.out _ b5).1))
  have s3 := (HK2.out _ b5).1
  have s4 := (HK2.out _ b5).2
  go_wp2_with (go_at_call_of 29 (Value.slice (some ⟨g1, 0, none⟩) (nF + 5) c1); fail)
  refine Calls.mono (kept_any (HR1.out _ b5) (HF2.out _ b5)) ?_
  rintro e6 w6 ⟨rfl, b6⟩
  have B6 := (b5).trans (b6.mono (b5).size)
  have s46 := (HK2.out _ B6).2
  go_wp2_with (go_at_call_of 29 (Value.slice (some ⟨g2, 0, none⟩) (nG + 5) c2); fail)
  refine Calls.mono (kept_any (HR2.out _ B6) (HG2.out _ B6)) ?_
  rintro e7 w7 ⟨rfl, b7⟩
  go_wp2
  go_ret
  exact ⟨rfl, BW.out _ (B6.trans (b7.mono B6.size))⟩
end Go.Proofs.Ytieehdhinponcaa
