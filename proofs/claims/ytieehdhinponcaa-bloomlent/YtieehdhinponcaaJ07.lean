import Derived.Test.YtieehdhinponcaaJ06
import Derived.Laws.AppendOwnNone
namespace Go.Proofs.Ytieehdhinponcaa
open Go.RowKit Go.Shelf
set_option linter.unusedVariables false

theorem own_rdp_len {w : World} {v : Value} {ks : List (List Nat)} (h : RdP w v ks) : ∃ a cap, v = .slice a ks.length cap := by
  obtain ⟨_, a, cap, h2, _⟩ := h
  exact ⟨a, cap, h2⟩
theorem rdp_at {w : World} {a : Option Addr} {n cap : Nat} {ks : List (List Nat)} (h : RdP w (.slice a n cap) ks) (i : Nat) (hi : i < n) : ∃ b off u, a = some ⟨b, off, none⟩ ∧ w.cell? ⟨b, off + i, none⟩ = some u ∧ Rd w u (ks.getD i []) := by
  obtain ⟨_, a1, c1, h2, hp⟩ := h
  simp only [Value.slice.injEq] at h2
  obtain ⟨rfl, rfl, rfl⟩ := h2
  rcases hp with rfl | ⟨b, off, rfl, hc⟩
  · simp at hi
  · obtain ⟨u, h1, h2⟩ := hc i hi
    exact ⟨b, off, u, rfl, h1, h2⟩

/-- What Build answers, a wrong number of bits or too many keys first. -/
theorem build_cases (b : Int) (ks : List (List Nat)) : (bldE b ks.length = 60 ∨ bldE b ks.length = 61) ∨ (bldE b ks.length = 0 ∧ ∃ bn : Nat, b = (bn : Int) ∧ bn ≤ 20 ∧ ks.length ≤ 1048576 ∧ bldL b ks = buildL bn ks) := by
  unfold bldL bldE
  split
  · exact .inl (.inl rfl)
  · split
    · exact .inl (.inr rfl)
    · refine .inr ⟨rfl, b.toNat, by omega, by omega, by omega, rfl⟩

set_option maxRecDepth 100000 in
set_option maxHeartbeats 4000000 in
theorem neverNo_walk {v1 v2 : Value} {ks qs : List (List Nat)} {w : World} (b : Int) (h1 : RdP w v1 ks) (h2 : RdP w v2 qs) :
    Calls Try.prog 3 #[.int .i64 b, v1, v2] w fun e w' => e = .returned (.bool true) ∧ Below w.heap.size w w' := by
  have H1 : Hid (RdP w v1 ks) := h1
  have H2 : Hid (RdP w v2 qs) := h2
  obtain ⟨a1, c1, rfl⟩ := own_rdp_len h1
  obtain ⟨a2, c2, rfl⟩ := own_rdp_len h2
  clear h1 h2
  have HS : Hid (∀ wx : World, Calls Try.prog 12 #[] wx fun e w' => e = .returned (.bool true) ∧ Below wx.heap.size wx w') := started_any
  have HN : Hid (∀ (z : Int) (wx : World), Calls Try.prog 14 #[.int .i64 z] wx fun e w' => e = .returned (.int .i64 z) ∧ w' = wx) := num_any
  have HB1 : Hid (∀ wx : World, Below w.heap.size w wx → Calls Try.prog 13 #[.int .i64 b, .slice a1 ks.length c1] wx fun e w' => ∃ a m c, e = .returned (.tuple #[.slice a m c, .int .i64 ((bldE b ks.length : Nat) : Int)]) ∧ Own w' wx.heap.size (.slice a m c) m (bldL b ks) ∧ Below wx.heap.size wx w') := fun wx hx => build_any b (H1.out.later hx)
  have HB2 : Hid (∀ wx : World, Below w.heap.size w wx → Calls Try.prog 13 #[.int .i64 b, .slice a2 qs.length c2] wx fun e w' => ∃ a m c, e = .returned (.tuple #[.slice a m c, .int .i64 ((bldE b qs.length : Nat) : Int)]) ∧ Own w' wx.heap.size (.slice a m c) m (bldL b qs) ∧ Below wx.heap.size wx w') := fun wx hx => build_any b (H2.out.later hx)
  have bad : ∀ (ks : List (List Nat)), bldE b ks.length = 60 ∨ bldE b ks.length = 61 → bldL b ks = [] := by
    intro ks h
    unfold bldL
    rcases h with h | h <;> rw [h] <;> rfl
  rcases build_cases b ks with hbad | ⟨hok, bn, rfl, hb20, hk20, hbl⟩
  · have hl := bad ks hbad
    rw [hl] at HB1
    obtain ⟨E, hE, hE0⟩ : ∃ E : Nat, E = bldE b ks.length ∧ E ≠ 0 := ⟨_, rfl, by omega⟩
    rw [← hE] at HB1
    have hE1 : ((E : Int) != 0) = true := by simp; omega
    clear hE hbad hl bad HB2
    generalize ks.length = nk at *
    go_enter Try.func3, Try.ntmps3
    go_wp2_with (first | (go_at_call 12; refine Calls.mono (HS.out _) ?_; rintro e1 w1 ⟨rfl, b1⟩) | (go_at_call 13; refine Calls.mono (HB1.out _ b1) ?_; rintro e2 w2 ⟨a3, m3, c3, rfl, own3, b2⟩; have hm3 : m3 = 0 := own3.1; subst hm3; clear own3) | (go_at_call 14; refine Calls.mono (HN.out _ _) ?_; rintro e4 w4 ⟨rfl, rfl⟩))
    go_ret
    exact ⟨rfl, b1.trans (b2.mono b1.size)⟩
  · rw [hok, hbl] at HB1
    obtain ⟨nk, hnk⟩ : ∃ nk, nk = ks.length := ⟨_, rfl⟩
    rw [← hnk] at HB1 H1 ⊢
    have HNK : Hid (nk = ks.length) := hnk
    have hnk2 : nk ≤ 1048576 := by omega
    clear hnk hok hbl
    rcases build_cases (bn : Int) qs with hbad | ⟨hok, bn', hbe, hb20', hq20, hbl⟩
    · have hl := bad qs hbad
      rw [hl] at HB2
      obtain ⟨E, hE, hE0⟩ : ∃ E : Nat, E = bldE (bn : Int) qs.length ∧ E ≠ 0 := ⟨_, rfl, by omega⟩
      rw [← hE] at HB2
      have hE1 : ((E : Int) != 0) = true := by simp; omega
      clear hE hbad hl bad
      generalize qs.length = nq at *
      go_enter Try.func3, Try.ntmps3
      go_wp2_with (first | (go_at_call 12; refine Calls.mono (HS.out _) ?_; rintro e1 w1 ⟨rfl, b1⟩) | (have BB := b2; go_at_call 13; refine Calls.mono (HB2.out _ (b1.trans (b2.mono b1.size))) ?_; rintro e5 w5 ⟨a5, m5, c5, rfl, own5, b5⟩; have hm5 : m5 = 0 := own5.1; subst hm5; clear own5) | (go_at_call 13; refine Calls.mono (HB1.out _ b1) ?_; rintro e2 w2 ⟨a3, m3, c3, rfl, own3, b2⟩) | (go_at_call 14; refine Calls.mono (HN.out _ _) ?_; rintro e4 w4 ⟨rfl, rfl⟩))
      go_ret
      exact ⟨rfl, (b1.trans (b2.mono b1.size)).trans (b5.mono (Nat.le_trans b1.size b2.size))⟩
    · have hbb : bn = bn' := by omega
      subst hbb
      rw [hok, hbl] at HB2
      obtain ⟨nq, hnq⟩ : ∃ nq, nq = qs.length := ⟨_, rfl⟩
      rw [← hnq] at HB2 H2 ⊢
      have hq20' : qs.length ≤ 1048576 := hq20
      have hk20' : ks.length ≤ 1048576 := hk20
      have hlF := build_len hb20 hk20
      have hlG := build_len hb20 hq20
      have HF : Hid (Bys (buildL bn ks) ∧ good (buildL bn ks) = true ∧ ∀ k ∈ ks, hasB (buildL bn ks) k = true) := ⟨build_bys hb20 hk20, (good_build hb20 hk20).1, fun k hk => by unfold hasB; rw [(has_key hb20 hk20 hk).1, (has_key hb20 hk20 hk).2]; rfl⟩
      have HG : Hid (Bys (buildL bn qs)) := build_bys hb20 hq20
      have HU : Hid (∀ (wx : World) (va vb : Value), Rd wx va (buildL bn ks) → Rd wx vb (buildL bn qs) → Calls Try.prog 15 #[va, vb] wx fun e w' => ∃ a m c, e = .returned (.tuple #[.slice a m c, .int .i64 ((uniE (buildL bn ks) (buildL bn qs) : Nat) : Int)]) ∧ Own w' wx.heap.size (.slice a m c) m (uniL (buildL bn ks) (buildL bn qs)) ∧ Below wx.heap.size wx w') := fun wx va vb ha hb => union_any ha hb
      have HC : Hid (∀ (wx : World) (va : Value) (L : List Nat), Rd wx va L → good L = true → Calls Try.prog 17 #[va] wx fun e w' => e = .returned (.int .i64 0) ∧ Below wx.heap.size wx w') := fun wx va L h hg => Calls.mono (check_any h) fun e w' h => ⟨by rw [h.1]; unfold chkE; rw [hg]; rfl, h.2⟩
      have HHas : Hid (∀ (wx : World) (va vb : Value) (L k : List Nat), Rd wx va L → Rd wx vb k → good L = true → hasB L k = true → Calls Try.prog 16 #[va, vb] wx fun e w' => e = .returned (.tuple #[.bool true, .int .i64 0]) ∧ Below wx.heap.size wx w') := fun wx va vb L k h1 h2 hg hh => Calls.mono (has_any h1 h2) fun e w' h => ⟨by rw [h.1, hh]; unfold chkE; rw [hg]; rfl, h.2⟩
      have huu : Hid (∀ k ∈ ks, uniE (buildL bn ks) (buildL bn qs) = 0 → good (unionL (buildL bn ks) (buildL bn qs)) = true ∧ hasB (unionL (buildL bn ks) (buildL bn qs)) k = true) := fun k hk hu => by
        have h1 := has_union (k := k) hb20 hk20 hq20 hu
        exact ⟨h1.1, by unfold hasB; rw [h1.1, h1.2 hk]; rfl⟩
      have hug : Hid (uniE (buildL bn ks) (buildL bn qs) = 0 → good (unionL (buildL bn ks) (buildL bn qs)) = true) := fun hu => (has_union (k := []) hb20 hk20 hq20 hu).1
      have hub : Hid (Bys (unionL (buildL bn ks) (buildL bn qs))) := unionL_bys HF.out.1 HG.out
      have hul0 : (unionL (buildL bn ks) (buildL bn qs)).length ≤ 7000000 := by unfold unionL; simp only [List.length_append, List.length_take, List.length_zipWith, List.length_drop]; omega
      have hul : Hid ((unionL (buildL bn ks) (buildL bn qs)).length ≤ 7000000) := hul0
      clear hul0
      have huo := uni_or hb20 hk20 hq20
      clear hok hbl hbe hb20' bad hnq hq20 hk20 hq20' hk20' hb20
      generalize buildL bn ks = F at *
      generalize buildL bn qs = G at *
      rcases huo with hu | hu
      · have hul2 : uniL F G = unionL F G := by unfold uniL; rw [hu]; rfl
        rw [hul2] at HU
        rw [hu] at HU
        have hgu := hug.out hu
        generalize unionL F G = X at *
        go_enter Try.func3, Try.ntmps3
        go_wp2_with (first | (go_at_call 12; refine Calls.mono (HS.out _) ?_; rintro e1 w1 ⟨rfl, b1⟩) | (have BB := b2; go_at_call 13; refine Calls.mono (HB2.out _ b2) ?_; rintro e5 w5 ⟨a5, m5, c5, rfl, own5, b5'⟩; have b5 : Below w.heap.size w w5 := b2.trans (b5'.mono b2.size); have rG : Hid (Rd w5 (.slice a3 m3 c3) F ∧ Rd w5 (.slice a5 m5 c5) G) := ⟨rF.out.later b5', own5.rd HG.out (by rw [own5.1]; omega)⟩; clear own5 b5') | (go_at_call 13; refine Calls.mono (HB1.out _ b1) ?_; rintro e2 w2 ⟨a3, m3, c3, rfl, own3, b2'⟩; have b2 : Below w.heap.size w w2 := b1.trans (b2'.mono b1.size); have rF : Hid (Rd w2 (.slice a3 m3 c3) F) := own3.rd HF.out.1 (by rw [own3.1]; omega); clear own3 b2') | (go_at_call 14; refine Calls.mono (HN.out _ _) ?_; rintro e4 w4 ⟨rfl, rfl⟩) | (go_at_call 15; refine Calls.mono (HU.out _ _ _ rG.out.1 rG.out.2) ?_; rintro e6 w6 ⟨a6, m6, c6, rfl, own6, b6'⟩; have b6 : Below w.heap.size w w6 := b5.trans (b6'.mono b5.size); have rU : Hid (Rd w6 (.slice a3 m3 c3) F ∧ Rd w6 (.slice a6 m6 c6) X) := ⟨rG.out.1.later b6', own6.rd hub.out (by have := hul.out; rw [own6.1]; omega)⟩; clear own6 b6'))
        have HW6 : Hid (Below w.heap.size w w6) := b6
        go_loopw [13] (fun i wr => ∃ k : Nat, k ≤ nk ∧ i = .int .i64 (k : Int) ∧ Hid (Below w6.heap.size w6 wr)) (fun i _ => nk - (intOf i).toNat)
        case atStart => exact ⟨0, Nat.zero_le _, rfl, Below.refl _ _⟩
        case round =>
          obtain ⟨k, hk, rfl, HI⟩ := hrel
          by_cases hlt : k < nk
          · have hlt2 : (k : Int) < (nk : Int) := by omega
            have bwr : Below w.heap.size w wr := HW6.out.trans (HI.out.mono HW6.out.size)
            obtain ⟨bk, fk, u, rfl, hcu, hru⟩ := rdp_at (H1.out.later bwr) k hlt
            obtain ⟨au, nu, cu, rfl⟩ : ∃ a n cap, u = .slice a n cap := by obtain ⟨_, a1, c1, h2, _⟩ := hru; exact ⟨_, _, _, h2⟩
            have hmem : ks.getD k [] ∈ ks := by
              have hkl : k < ks.length := by rw [← HNK.out]; exact hlt
              rw [show ks.getD k [] = ks[k] by simp [List.getD, hkl]]
              exact List.getElem_mem hkl
            have HRU : Hid (Rd wr (.slice au nu cu) (ks.getD k []) ∧ ks.getD k [] ∈ ks) := ⟨hru, hmem⟩
            clear hru hmem bwr
            go_wp2_with (first | (go_at_call_of 16 (Value.slice a3 m3 c3); refine Calls.mono (HHas.out _ _ _ F (ks.getD k []) (rU.out.1.later HI.out) HRU.out.1 HF.out.2.1 (HF.out.2.2 _ HRU.out.2)) ?_; rintro e7 w7 ⟨rfl, b7⟩; have x7 := (b7.cell (p := ⟨bk, fk + k, none⟩) (World.block_lt_of_cell? _ _ hcu)).trans hcu) | (have B7 := b7; go_at_call 16; refine Calls.mono (HHas.out _ _ _ X (ks.getD k []) ((rU.out.2.later HI.out).later b7) (HRU.out.1.later b7) hgu (huu.out _ HRU.out.2 hu).2) ?_; rintro e8 w8 ⟨rfl, b8⟩) | (go_at_call 14; refine Calls.mono (HN.out _ _) ?_; rintro e4 w4 ⟨rfl, rfl⟩))
            go_roundw
            case rel => exact ⟨k + 1, by omega, by go_num, (HI.out.trans (b7.mono HI.out.size)).trans (b8.mono (Nat.le_trans HI.out.size b7.size))⟩
            case measure => simp [intOf]; omega
          · go_wp2_with (first | (go_at_call_of 17 (Value.slice a3 m3 c3); refine Calls.mono (HC.out _ _ F (rU.out.1.later HI.out) HF.out.2.1) ?_; rintro e7 w7 ⟨rfl, b7⟩) | (have B7 := b7; go_at_call 17; refine Calls.mono (HC.out _ _ X ((rU.out.2.later HI.out).later b7) hgu) ?_; rintro e8 w8 ⟨rfl, b8⟩) | (go_at_call 14; refine Calls.mono (HN.out _ _) ?_; rintro e4 w4 ⟨rfl, rfl⟩))
            go_ret
            exact ⟨rfl, ((HW6.out.trans (HI.out.mono HW6.out.size)).trans (b7.mono (Nat.le_trans HW6.out.size HI.out.size))).trans (b8.mono (Nat.le_trans (Nat.le_trans HW6.out.size HI.out.size) b7.size))⟩
      · have hul2 : uniL F G = [] := by unfold uniL; rw [hu]; rfl
        rw [hul2] at HU
        rw [hu] at HU
        go_enter Try.func3, Try.ntmps3
        go_wp2_with (first | (go_at_call 12; refine Calls.mono (HS.out _) ?_; rintro e1 w1 ⟨rfl, b1⟩) | (have BB := b2; go_at_call 13; refine Calls.mono (HB2.out _ b2) ?_; rintro e5 w5 ⟨a5, m5, c5, rfl, own5, b5'⟩; have b5 : Below w.heap.size w w5 := b2.trans (b5'.mono b2.size); have rG : Hid (Rd w5 (.slice a3 m3 c3) F ∧ Rd w5 (.slice a5 m5 c5) G) := ⟨rF.out.later b5', own5.rd HG.out (by rw [own5.1]; omega)⟩; clear own5 b5') | (go_at_call 13; refine Calls.mono (HB1.out _ b1) ?_; rintro e2 w2 ⟨a3, m3, c3, rfl, own3, b2'⟩; have b2 : Below w.heap.size w w2 := b1.trans (b2'.mono b1.size); have rF : Hid (Rd w2 (.slice a3 m3 c3) F) := own3.rd HF.out.1 (by rw [own3.1]; omega); clear own3 b2') | (go_at_call 14; refine Calls.mono (HN.out _ _) ?_; rintro e4 w4 ⟨rfl, rfl⟩) | (go_at_call 15; refine Calls.mono (HU.out _ _ _ rG.out.1 rG.out.2) ?_; rintro e6 w6 ⟨a6, m6, c6, rfl, own6, b6'⟩; have b6 : Below w.heap.size w w6 := b5.trans (b6'.mono b5.size); have rU : Hid (Rd w6 (.slice a3 m3 c3) F ∧ True) := ⟨rG.out.1.later b6', trivial⟩; have hm6 : m6 = 0 := own6.1; subst hm6; clear own6 b6'))
        have HW6 : Hid (Below w.heap.size w w6) := b6
        go_loopw [13] (fun i wr => ∃ k : Nat, k ≤ nk ∧ i = .int .i64 (k : Int) ∧ Hid (Below w6.heap.size w6 wr)) (fun i _ => nk - (intOf i).toNat)
        case atStart => exact ⟨0, Nat.zero_le _, rfl, Below.refl _ _⟩
        case round =>
          obtain ⟨k, hk, rfl, HI⟩ := hrel
          by_cases hlt : k < nk
          · have hlt2 : (k : Int) < (nk : Int) := by omega
            have bwr : Below w.heap.size w wr := HW6.out.trans (HI.out.mono HW6.out.size)
            obtain ⟨bk, fk, u, rfl, hcu, hru⟩ := rdp_at (H1.out.later bwr) k hlt
            obtain ⟨au, nu, cu, rfl⟩ : ∃ a n cap, u = .slice a n cap := by obtain ⟨_, a1, c1, h2, _⟩ := hru; exact ⟨_, _, _, h2⟩
            have hmem : ks.getD k [] ∈ ks := by
              have hkl : k < ks.length := by rw [← HNK.out]; exact hlt
              rw [show ks.getD k [] = ks[k] by simp [List.getD, hkl]]
              exact List.getElem_mem hkl
            have HRU : Hid (Rd wr (.slice au nu cu) (ks.getD k []) ∧ ks.getD k [] ∈ ks) := ⟨hru, hmem⟩
            clear hru hmem bwr
            go_wp2_with (first | (go_at_call_of 16 (Value.slice a3 m3 c3); refine Calls.mono (HHas.out _ _ _ F (ks.getD k []) (rU.out.1.later HI.out) HRU.out.1 HF.out.2.1 (HF.out.2.2 _ HRU.out.2)) ?_; rintro e7 w7 ⟨rfl, b7⟩; have x7 := (b7.cell (p := ⟨bk, fk + k, none⟩) (World.block_lt_of_cell? _ _ hcu)).trans hcu) | (go_at_call 14; refine Calls.mono (HN.out _ _) ?_; rintro e4 w4 ⟨rfl, rfl⟩))
            go_roundw
            case rel => exact ⟨k + 1, by omega, by go_num, HI.out.trans (b7.mono HI.out.size)⟩
            case measure => simp [intOf]; omega
          · go_wp2_with (first | (go_at_call_of 17 (Value.slice a3 m3 c3); refine Calls.mono (HC.out _ _ F (rU.out.1.later HI.out) HF.out.2.1) ?_; rintro e7 w7 ⟨rfl, b7⟩) | (go_at_call 14; refine Calls.mono (HN.out _ _) ?_; rintro e4 w4 ⟨rfl, rfl⟩))
            go_ret
            exact ⟨rfl, (HW6.out.trans (HI.out.mono HW6.out.size)).trans (b7.mono (Nat.le_trans HW6.out.size HI.out.size))⟩
end Go.Proofs.Ytieehdhinponcaa

namespace Go.Proofs.Ytieehdhinponcaa
open Go.RowKit
set_option linter.unusedVariables false

theorem info_bytes : (Try.prog.info? 24).map (fun i => (i.zero, i.size, i.bytes)) = some (some (.slice none 0 0), 1, 24) := by kernel_rfl

/-- The cells of a list of byte strings. -/
def Row (w : World) (vs : List Value) (ps : List (List Nat)) : Prop := vs.length = ps.length ∧ ∀ i, i < ps.length → ∃ u, vs[i]? = some u ∧ Rd w u (ps.getD i [])
theorem Row.nil (w : World) : Row w [] [] := ⟨rfl, fun i hi => by simp at hi⟩
theorem Row.later {w w' : World} {vs : List Value} {ps : List (List Nat)} (h : Row w vs ps) (hb : Below w.heap.size w w') : Row w' vs ps :=
  ⟨h.1, fun i hi => let ⟨u, h1, h2⟩ := h.2 i hi; ⟨u, h1, h2.later hb⟩⟩
theorem Row.append {w : World} {vs us : List Value} {ps qs : List (List Nat)} (h : Row w vs ps) (k : Row w us qs) : Row w (vs ++ us) (ps ++ qs) := by
  refine ⟨by simp [h.1, k.1], fun i hi => ?_⟩
  by_cases hp : i < ps.length
  · obtain ⟨u, h1, h2⟩ := h.2 i hp
    refine ⟨u, by rw [List.getElem?_append_left (by rw [h.1]; exact hp)]; exact h1, ?_⟩
    rw [show (ps ++ qs).getD i [] = ps.getD i [] by simp [List.getD, List.getElem?_append_left hp]]
    exact h2
  · have hq : i - ps.length < qs.length := by simp at hi; omega
    obtain ⟨u, h1, h2⟩ := k.2 _ hq
    refine ⟨u, by rw [List.getElem?_append_right (by rw [h.1]; omega), h.1]; exact h1, ?_⟩
    rw [show (ps ++ qs).getD i [] = qs.getD (i - ps.length) [] by simp [List.getD, List.getElem?_append_right (show ps.length ≤ i by omega)]]
    exact h2
theorem Row.one {w : World} {vs : List Value} {ps : List (List Nat)} (h : Row w vs ps) : ∀ u ∈ vs, u.oneCell' = true := by
  intro u hu
  obtain ⟨i, hi, rfl⟩ := List.mem_iff_getElem.1 hu
  obtain ⟨u, h1, h2⟩ := h.2 i (by rw [← h.1]; exact hi)
  rw [List.getElem?_eq_getElem hi] at h1
  cases h1
  obtain ⟨_, a, c, e, _⟩ := h2
  rw [e]
  rfl
/-- What came in, as a list of cells. -/
theorem RdP.row {w : World} {a : Option Addr} {n cap : Nat} {ps : List (List Nat)} (h : RdP w (.slice a n cap) ps) : ∃ vs, n = ps.length ∧ Row w vs ps ∧ (ps = [] ∨ ∃ b off, a = some ⟨b, off, none⟩) ∧ ∀ x, a = some x → ∀ j u, vs[j]? = some u → w.cell? (x.add j) = some u := by
  obtain ⟨_, a1, c1, h2, hp⟩ := h
  simp only [Value.slice.injEq] at h2
  obtain ⟨rfl, rfl, rfl⟩ := h2
  rcases hp with rfl | ⟨b, off, rfl, hc⟩
  · exact ⟨[], rfl, Row.nil w, .inl rfl, fun x _ j u hj => by simp at hj⟩
  · refine ⟨(List.range ps.length).map fun i => (w.cell? ⟨b, off + i, none⟩).getD undef, rfl, ⟨by simp, fun i hi => ?_⟩, .inr ⟨b, off, rfl⟩, fun x hx j u hj => ?_⟩
    · obtain ⟨u, h1, h2⟩ := hc i hi
      exact ⟨u, by simp [hi, h1], h2⟩
    · cases hx
      have hj2 : j < ps.length := by
        have := (List.getElem?_eq_some_iff.1 hj).1
        simpa using this
      obtain ⟨u', h1, _⟩ := hc j hj2
      simp [hj2, h1] at hj
      subst hj
      have e : (⟨b, off, none⟩ : Addr).add j = ⟨b, off + j, none⟩ := by unfold Addr.add; split <;> simp_all
      rw [e]
      exact h1
/-- A row of one's own reads as lists of bytes. -/
theorem rdp_own {w : World} {B n : Nat} {v : Value} {vs : List Value} {ps : List (List Nat)} (h : w.ownsRow B 24 1 v n vs) (hr : Row w vs ps) (hn : n = ps.length) (hl : n ≤ 281474976710656) : RdP w v ps := by
  subst hn
  refine ⟨hl, ?_⟩
  rcases h.2 with ⟨rfl, hn⟩ | ⟨g, cap, cur, rfl, _, hg, hle, hm, hsz, htk⟩
  · exact ⟨none, 0, by simp [hn], .inl (List.eq_nil_of_length_eq_zero hn)⟩
  · refine ⟨_, cap, rfl, .inr ⟨g, 0, rfl, fun i hi => ?_⟩⟩
    obtain ⟨u, h1, h2⟩ := hr.2 i hi
    refine ⟨u, ?_, h2⟩
    rw [← htk] at h1
    rw [List.getElem?_take_of_lt (by omega)] at h1
    have : cur[i]? = some u := by simpa using h1
    simp [World.cell?, hg, this]
theorem rowForm {w : World} {B n : Nat} {v : Value} {xs : List Value} (h : w.ownsRow B 24 1 v n xs) : ∃ a c, v = .slice a n c := by
  rcases h.2 with ⟨rfl, rfl⟩ | ⟨g, cap, cur, rfl, _⟩
  · exact ⟨_, _, rfl⟩
  · exact ⟨_, _, rfl⟩

/-- append(own, parts...) -/
theorem wpList_append_rows {w : World} {ops : Array Oper} {rest : List Oper} {o : Oper} {a : Act} {Q : Exit → Act → World → Prop} (hgd : o.guard = none) (s x : Operand)
    (ho : o.op = .call { callee := .builtin .append, args := #[s, x], argTypes := #[22, 22] })
    (B : Nat) (a0 : Option Addr) (m0 c0 : Nat) (vs : List Value) (hs : a.eval s = .slice a0 m0 c0) (hown : w.ownsRow B 24 1 (.slice a0 m0 c0) m0 vs)
    (ao : Option Addr) (m c : Nat) (us : List Value) (hx : a.eval x = .slice ao m c) (hum : m = us.length) (hu1 : ∀ u ∈ us, u.oneCell' = true) (hao : us = [] ∨ ∃ b off, ao = some ⟨b, off, none⟩) (hcell : ∀ x, ao = some x → ∀ j u, us[j]? = some u → w.cell? (x.add j) = some u) (hc0 : ao = none → c = 0)
    (hbytes : m0 + m ≤ 1099511627776) (hB : B ≤ w.heap.size)
    (h : ∀ a' c' w', w'.ownsRow B 24 1 (.slice a' (m0 + m) c') (m0 + m) (vs ++ us) → Below B w w' → wpList Try.prog ops Q rest (a.put o.dst (.slice a' (m0 + m) c')) w') : wpList Try.prog ops Q (o :: rest) a w := by
  obtain ⟨i0, hi, hz0, hz1, hz2⟩ := info_parts info_bytes
  subst hum
  cases ao with
  | none =>
    have hb0 : us = [] := by
      rcases hao with h | ⟨b, off, h⟩
      · exact h
      · cases h
    subst hb0
    have hc := hc0 rfl
    subst hc
    refine wpList_append_own_none hgd s x 22 ho B 24 i0 1 und_parts hi _ _ _ hs hown (by simpa using hx) ?_
    exact h _ _ _ (by simpa using hown) (Below.refl _ _)
  | some ad =>
    refine wpList_append_own _ hgd s x 22 ho B 24 i0 (.slice none 0 0) 1 24 und_parts hi hz0 hz1 hz2 rfl (by decide) _ m0 vs hs hown ad us.length c us hx (by simp) (hcell ad rfl) hu1 (by unfold maxLen; omega) (by omega) hB ?_
    intro v' w' h1 h2 _
    obtain ⟨a', c', rfl⟩ := rowForm h1
    exact h a' c' w' h1 ((Below.refl B w).grown h2 hB (fun k hk => (hown.lt k hk).1))

/-- The union is what Build would have made of both. -/
theorem uni_comm (A B : List Nat) : uniE A B = uniE B A := by
  unfold uniE
  rw [Bool.and_comm]
  congr 1
  simp only [eq_comm]
theorem keyS_append (a b : List (List Nat)) (p m i : Nat) : keyS (a ++ b) p m i = (keyS a p m i || keyS b p m i) := by simp [keyS]
theorem uni_len {b : Nat} {ks qs : List (List Nat)} (hb : b ≤ 20) (hn : ks.length ≤ 1048576) (hq : qs.length ≤ 1048576) : (uniE (buildL b ks) (buildL b qs) = 0) ↔ (buildL b ks).length = (buildL b qs).length := by
  obtain ⟨g1, p1, m1⟩ := good_build hb hn
  obtain ⟨g2, p2, m2⟩ := good_build hb hq
  have h1 := mOf_le (n := (uniq ks).length) hb (Nat.le_trans (uniq_le ks) hn)
  have h2 := mOf_le (n := (uniq qs).length) hb (Nat.le_trans (uniq_le qs) hq)
  have e1 : (buildL b ks).length = 6 + mOf b (uniq ks).length / 8 := filt_length _ _ _
  have e2 : (buildL b qs).length = 6 + mOf b (uniq qs).length / 8 := filt_length _ _ _
  unfold uniE
  rw [g1, g2, p1, p2, m1, m2, e1, e2]
  simp
  omega
theorem uni_shape {b : Nat} {ks qs : List (List Nat)} (hb : b ≤ 20) (hn : ks.length ≤ 1048576) (hq : qs.length ≤ 1048576) (h : (buildL b ks).length = (buildL b qs).length) : mOf b (uniq ks).length = mOf b (uniq qs).length := by
  have h1 := mOf_le (n := (uniq ks).length) hb (Nat.le_trans (uniq_le ks) hn)
  have h2 := mOf_le (n := (uniq qs).length) hb (Nat.le_trans (uniq_le qs) hq)
  have e1 : (buildL b ks).length = 6 + mOf b (uniq ks).length / 8 := filt_length _ _ _
  have e2 : (buildL b qs).length = 6 + mOf b (uniq qs).length / 8 := filt_length _ _ _
  omega
theorem union_build {b : Nat} {ks qs : List (List Nat)} (hb : b ≤ 20) (hn : ks.length ≤ 1048576) (hq : qs.length ≤ 1048576) (h : (buildL b ks).length = (buildL b qs).length) :
    unionL (buildL b ks) (buildL b qs) = filt (pOf b) (mOf b (uniq ks).length) (fun i => keyS ks (pOf b) (mOf b (uniq ks).length) i || keyS qs (pOf b) (mOf b (uniq ks).length) i) := by
  have hsh := uni_shape hb hn hq h
  unfold buildL
  rw [← hsh]
  exact union_is _ _
theorem union_comm {b : Nat} {ks qs : List (List Nat)} (hb : b ≤ 20) (hn : ks.length ≤ 1048576) (hq : qs.length ≤ 1048576) : uniL (buildL b ks) (buildL b qs) = uniL (buildL b qs) (buildL b ks) := by
  unfold uniL
  rw [uni_comm (buildL b qs)]
  by_cases h : uniE (buildL b ks) (buildL b qs) = 0
  · rw [if_pos h, if_pos h]
    have hl := (uni_len hb hn hq).1 h
    rw [union_build hb hn hq hl, union_build hb hq hn hl.symm, uni_shape hb hn hq hl]
    congr 1
    funext i
    exact Bool.or_comm _ _
  · rw [if_neg h, if_neg h]
theorem union_all {b : Nat} {ks qs : List (List Nat)} (hb : b ≤ 20) (hn : ks.length ≤ 1048576) (hq : qs.length ≤ 1048576) (ha : (ks ++ qs).length ≤ 1048576) (h : (buildL b ks).length = (buildL b qs).length) (h2 : (buildL b ks).length = (buildL b (ks ++ qs)).length) :
    unionL (buildL b ks) (buildL b qs) = buildL b (ks ++ qs) := by
  rw [union_build hb hn hq h]
  have hsh := uni_shape hb hn ha h2
  conv => rhs; unfold buildL
  rw [← hsh]
  congr 1
  funext i
  exact (keyS_append ks qs _ _ i).symm
end Go.Proofs.Ytieehdhinponcaa

namespace Go.Proofs.Ytieehdhinponcaa
open Go.RowKit
set_option linter.unusedVariables false

theorem und_ints : Try.prog.underlying 76 = some (.slice 3) := by kernel_rfl
theorem und_bools : Try.prog.underlying 75 = some (.slice 4) := by kernel_rfl
theorem info_int : (Try.prog.info? 3).map (fun i => (i.zero, i.size, i.bytes)) = some (some (.int .i64 0), 1, 8) := by kernel_rfl
theorem info_bool : (Try.prog.info? 4).map (fun i => (i.zero, i.size, i.bytes)) = some (some (.bool false), 1, 1) := by kernel_rfl

theorem row_form {w : World} {B n : Nat} {e : TypeId} {v : Value} {xs : List Value} (h : w.ownsRow B e 1 v n xs) : ∃ a c, v = .slice a n c := by
  rcases h.2 with ⟨rfl, rfl⟩ | ⟨g, cap, cur, rfl, _⟩
  · exact ⟨_, _, rfl⟩
  · exact ⟨_, _, rfl⟩
/-- append(own, x): one element, which was just laid into a block of its own. -/
theorem wpList_append1 {w : World} {ops : Array Oper} {rest : List Oper} {o : Oper} {a : Act} {Q : Exit → Act → World → Prop} (t e : TypeId) (z : Value) (by_ : Nat) (hu : Try.prog.underlying t = some (.slice e)) (hinf : (Try.prog.info? e).map (fun i => (i.zero, i.size, i.bytes)) = some (some z, 1, by_)) (hzc : z.cells.size = 1)
    (hgd : o.guard = none) (s x : Operand) (ho : o.op = .call { callee := .builtin .append, args := #[s, x], argTypes := #[t, t] })
    (B : Nat) (a0 : Option Addr) (m0 c0 : Nat) (vs : List Value) (hs : a.eval s = .slice a0 m0 c0) (hown : w.ownsRow B e 1 (.slice a0 m0 c0) m0 vs)
    (u : Value) (hu1 : u.oneCell' = true) (hx : a.eval x = .slice (some ⟨w.heap.size, 0, none⟩) 1 1) (hm : m0 + 1 ≤ 1099511627776) (hby : by_ ≤ 64) (hB : B ≤ w.heap.size)
    (h : ∀ a' c' w', w'.ownsRow B e 1 (.slice a' (m0 + 1) c') (m0 + 1) (vs ++ [u]) → Below B w w' → wpList Try.prog ops Q rest (a.put o.dst (.slice a' (m0 + 1) c')) w') : wpList Try.prog ops Q (o :: rest) a (w.alloc (.cells #[u] e)) := by
  obtain ⟨i0, hi, hz0, hz1, hz2⟩ := info_parts hinf
  have hnew : ∀ j v, ([u] : List Value)[j]? = some v → (w.alloc (.cells #[u] e)).cell? ((⟨w.heap.size, 0, none⟩ : Addr).add j) = some v := by
    intro j v hj
    have e : (⟨w.heap.size, 0, none⟩ : Addr).add j = ⟨w.heap.size, j, none⟩ := by unfold Addr.add; split <;> simp_all
    rw [e, Joins.cell_of_block (World.alloc_heap_new w _)]
    simpa using hj
  have hmb : (m0 + 1) * by_ ≤ 1099511627776 * 64 := Nat.mul_le_mul hm hby
  refine wpList_append_own _ hgd s x t ho B e i0 z 1 by_ hu hi hz0 hz1 hz2 hzc (by decide) _ m0 vs hs (hown.alloc _) ⟨w.heap.size, 0, none⟩ 1 1 [u] hx rfl hnew (fun v hv => by simp at hv; subst hv; exact hu1) (by unfold maxLen; omega) (by omega) (by simp; omega) ?_
  intro v' w' h1 h2 _
  obtain ⟨a', c', rfl⟩ := row_form h1
  exact h a' c' w' h1 (((Below.refl B w).alloc hB _).grown h2 (by simp; omega) (fun k hk => (hown.lt k hk).1))

/-- Rows of ints and of bools. -/
def iv (xs : List Nat) : List Value := xs.map fun n : Nat => Value.int .i64 (n : Int)
def bl (xs : List Bool) : List Value := xs.map Value.bool
theorem iv_snoc (xs : List Nat) (x : Nat) : iv (xs ++ [x]) = iv xs ++ [.int .i64 (x : Int)] := by simp [iv]
theorem bl_snoc (xs : List Bool) (x : Bool) : bl (xs ++ [x]) = bl xs ++ [.bool x] := by simp [bl]

theorem odd_is (y : Nat) : y ||| 1 = if y % 2 = 0 then y + 1 else y := by
  apply Nat.eq_of_testBit_eq
  intro i
  rw [Nat.testBit_or]
  cases i with
  | zero =>
    simp only [Nat.testBit_zero]
    split <;> simp <;> omega
  | succ i =>
    simp only [Nat.testBit_succ]
    split
    · rw [show (y + 1) / 2 = y / 2 by omega]; simp
    · simp

set_option maxRecDepth 100000 in
set_option maxHeartbeats 400000 in
theorem refHash_any {v : Value} {bs : List Nat} {w : World} (hr : Rd w v bs) :
    Calls Try.prog 51 #[v] w fun e w' => e = .returned (.int .u64 ((hashN bs : Nat) : Int)) ∧ w' = w := by
  obtain ⟨hby, a, cap, rfl, hle, hm, hl48, hnone, hat⟩ := hr
  go_enter Try.func51, Try.ntmps51
  go_wp2
  go_loop [3, 4] (fun x i => ∃ k r : Nat, k ≤ bs.length ∧ i = .int .i64 (k : Int) ∧ x = .int .u64 (r : Int) ∧ r < 18446744073709551616 ∧ r = hashN (bs.take k)) (fun _ i => bs.length - (intOf i).toNat)
  case atStart => exact ⟨0, 14695981039346656037, Nat.zero_le _, rfl, rfl, by omega, rfl⟩
  case round =>
    obtain ⟨k, r, hk, rfl, rfl, hr, hrr⟩ := hrel
    have HR : Hid (r = hashN (bs.take k)) := hrr
    clear hrr
    by_cases hlt : k < bs.length
    · have hlt2 : (k : Int) < (bs.length : Int) := by omega
      rcases hat with rfl | ⟨b, off, rfl, hc⟩
      · simp at hlt
      have hcc := hc k hlt
      clear hc
      have hcl := hby.get k
      obtain ⟨c, hcd⟩ : ∃ c, c = bs.getD k 0 := ⟨_, rfl⟩
      rw [← hcd] at hcc hcl
      have HC : Hid (c = bs.getD k 0) := hcd
      clear hcd
      obtain ⟨q, hq⟩ : ∃ q, q = r ^^^ c := ⟨_, rfl⟩
      have lq : q < 18446744073709551616 := hq ▸ Nat.xor_lt_two_pow (n := 64) hr (by omega)
      have e1 : bits .xor .u64 (r : Int) (c : Int) = (q : Int) := by rw [hq]; exact u64_xor_nat r c hr (by omega)
      have HQ : Hid (q = r ^^^ c) := hq
      clear hq
      go_wp2
      go_round
      case rel =>
        refine ⟨k + 1, q * 1099511628211 % 18446744073709551616, by omega, by go_num, by rw [mul_wrap], Nat.mod_lt _ (by decide), ?_⟩
        rw [take_succ_getD bs k hlt, hashN_snoc, ← HR.out, ← HC.out]
        unfold hashS
        rw [HQ.out]
      case measure => simp [intOf]; omega
    · have hk2 : bs.take k = bs := List.take_of_length_le (by omega)
      have hr2 := HR.out
      rw [hk2] at hr2
      subst hr2
      go_wp2
      go_ret
      exact ⟨rfl, rfl⟩

set_option maxRecDepth 100000 in
set_option maxHeartbeats 1000000 in
theorem refPlaces_any {v : Value} {k : List Nat} {w : World} (hr : Rd w v k) (p m : Nat) (hp : p ≤ 14) (hm : 0 < m) (hm2 : m ≤ 20971520) :
    Calls Try.prog 43 #[v, .int .i64 (p : Int), .int .i64 (m : Int)] w fun e w' => ∃ a c, e = .returned (.slice a p c) ∧ w'.ownsRow w.heap.size 3 1 (.slice a p c) p (iv (placesN k p m)) ∧ Below w.heap.size w w' := by
  have HH : Hid (Calls Try.prog 51 #[v] w fun e w' => e = .returned (.int .u64 ((hashN k : Nat) : Int)) ∧ w' = w) := refHash_any hr
  obtain ⟨a0, n0, c0, rfl⟩ : ∃ a n cap, v = .slice a n cap := by obtain ⟨_, a1, c1, h2, _⟩ := hr; exact ⟨_, _, _, h2⟩
  have hhl := hashN_lt k
  obtain ⟨hh, hhe⟩ : ∃ hh, hh = hashN k := ⟨_, rfl⟩
  rw [← hhe] at HH hhl
  have hx : Hid (hX k = hh / 4294967296 ∧ hL k = hh % 4294967296) := by rw [hhe]; exact ⟨rfl, rfl⟩
  clear hhe hr
  obtain ⟨x, hxe⟩ : ∃ x, x = hh / 4294967296 := ⟨_, rfl⟩
  obtain ⟨y, hye⟩ : ∃ y, y = hh % 4294967296 := ⟨_, rfl⟩
  have e1 : (hh : Int) / 4294967296 = (x : Int) := by omega
  have e2 : (hh : Int) % 4294967296 = (y : Int) := by omega
  have xl : x < 4294967296 := by omega
  have yl : y < 4294967296 := by omega
  have HXY : Hid (hX k = x ∧ hL k = y) := by rw [hxe, hye]; exact hx.out
  clear hxe hye hx
  have hm' : (0 : Int) < (m : Int) := by omega
  by_cases hy2 : y % 2 = 0
  · have hyi : (y : Int) % 2 = 0 := by omega
    have hyb : ((y : Int) % 2 == 0) = true := by rw [beq_iff_eq]; exact hyi
    go_enter Try.func43, Try.ntmps43
    go_wp2_with (go_at_call 51; refine Calls.mono HH.out ?_; rintro e3 w3 ⟨rfl, rfl⟩)
    go_loopw [10, 11] (fun l i wr => ∃ (j : Nat) (al : Option Addr) (cl : Nat), j ≤ p ∧ i = .int .i64 (j : Int) ∧ l = .slice al j cl ∧ Hid (wr.ownsRow w3.heap.size 3 1 (.slice al j cl) j (iv ((List.range j).map (placeN k m))) ∧ Below w3.heap.size w3 wr)) (fun _ i _ => p - (intOf i).toNat)
    case atStart => exact ⟨0, none, 0, Nat.zero_le _, rfl, rfl, World.ownsRow_nil _ _ _ _, Below.refl _ _⟩
    case round =>
      clear e1 e2 hyi hyb
      obtain ⟨j, al, cl, hj, rfl, rfl, HI⟩ := hrel
      by_cases hlt : j < p
      · have hlt2 : (j : Int) < (p : Int) := by omega
        obtain ⟨t, ht⟩ : ∃ t, t = j * (y + 1) := ⟨_, rfl⟩
        have htl : t ≤ 14 * 4294967296 := by rw [ht]; exact Nat.mul_le_mul (by omega) (by omega)
        have hmul : (j : Int) * ((y : Int) + 1) = (t : Int) := by rw [ht]; simp
        obtain ⟨q, hq⟩ : ∃ q, q = (x + t) % 4294967296 % m := ⟨_, rfl⟩
        have hqe : ((x : Int) + (t : Int)) % 4294967296 % (m : Int) = (q : Int) := by rw [hq]; simp
        have hql : q < m := by rw [hq]; exact Nat.mod_lt _ hm
        have hq0 : placeN k m j = q := by
          unfold placeN stepN
          rw [HXY.out.1, HXY.out.2, odd_is, if_pos hy2, hq, ht]
        have HQ : Hid (placeN k m j = q) := hq0
        clear ht hq hq0
        go_wp2_with (at_builtin; refine wpList_append1 76 3 (.int .i64 0) 8 und_ints info_int rfl rfl _ _ rfl w3.heap.size _ _ _ _ rfl HI.out.1 (.int .i64 (q : Int)) rfl rfl (by omega) (by decide) HI.out.2.size ?_; intro a' c' w5 own5 b5)
        go_roundw
        case rel =>
          refine ⟨j + 1, a', c', by omega, by go_num, rfl, ?_, HI.out.2.trans b5⟩
          rw [List.range_succ, List.map_append, List.map_cons, List.map_nil, iv_snoc, HQ.out]
          exact own5
        case measure => simp [intOf]; omega
      · have hjp : j = p := by omega
        subst hjp
        go_wp2
        go_ret
        exact ⟨al, cl, rfl, HI.out.1, HI.out.2⟩
  · have hyi : ¬ ((y : Int) % 2 = 0) := by omega
    have hyb : ((y : Int) % 2 == 0) = false := by rw [beq_eq_false_iff_ne]; exact hyi
    go_enter Try.func43, Try.ntmps43
    go_wp2_with (go_at_call 51; refine Calls.mono HH.out ?_; rintro e3 w3 ⟨rfl, rfl⟩)
    go_loopw [10, 11] (fun l i wr => ∃ (j : Nat) (al : Option Addr) (cl : Nat), j ≤ p ∧ i = .int .i64 (j : Int) ∧ l = .slice al j cl ∧ Hid (wr.ownsRow w3.heap.size 3 1 (.slice al j cl) j (iv ((List.range j).map (placeN k m))) ∧ Below w3.heap.size w3 wr)) (fun _ i _ => p - (intOf i).toNat)
    case atStart => exact ⟨0, none, 0, Nat.zero_le _, rfl, rfl, World.ownsRow_nil _ _ _ _, Below.refl _ _⟩
    case round =>
      clear e1 e2 hyi hyb
      obtain ⟨j, al, cl, hj, rfl, rfl, HI⟩ := hrel
      by_cases hlt : j < p
      · have hlt2 : (j : Int) < (p : Int) := by omega
        obtain ⟨t, ht⟩ : ∃ t, t = j * y := ⟨_, rfl⟩
        have htl : t ≤ 14 * 4294967296 := by rw [ht]; exact Nat.mul_le_mul (by omega) (by omega)
        have hmul : (j : Int) * (y : Int) = (t : Int) := by rw [ht]; simp
        obtain ⟨q, hq⟩ : ∃ q, q = (x + t) % 4294967296 % m := ⟨_, rfl⟩
        have hqe : ((x : Int) + (t : Int)) % 4294967296 % (m : Int) = (q : Int) := by rw [hq]; simp
        have hql : q < m := by rw [hq]; exact Nat.mod_lt _ hm
        have hq0 : placeN k m j = q := by
          unfold placeN stepN
          rw [HXY.out.1, HXY.out.2, odd_is, if_neg hy2, hq, ht]
        have HQ : Hid (placeN k m j = q) := hq0
        clear ht hq hq0
        go_wp2_with (at_builtin; refine wpList_append1 76 3 (.int .i64 0) 8 und_ints info_int rfl rfl _ _ rfl w3.heap.size _ _ _ _ rfl HI.out.1 (.int .i64 (q : Int)) rfl rfl (by omega) (by decide) HI.out.2.size ?_; intro a' c' w5 own5 b5)
        go_roundw
        case rel =>
          refine ⟨j + 1, a', c', by omega, by go_num, rfl, ?_, HI.out.2.trans b5⟩
          rw [List.range_succ, List.map_append, List.map_cons, List.map_nil, iv_snoc, HQ.out]
          exact own5
        case measure => simp [intOf]; omega
      · have hjp : j = p := by omega
        subst hjp
        go_wp2
        go_ret
        exact ⟨al, cl, rfl, HI.out.1, HI.out.2⟩
end Go.Proofs.Ytieehdhinponcaa
