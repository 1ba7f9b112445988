import Derived.Test.YtcangaoamhaagaaJ05
import Derived.Test.YtcangaoamhaagaaRows
import Derived.Test.YtcangaoamhaagaaJ00
import Derived.ProofKit
import Derived.OpenShut
import Derived.Deep.DeepHandedRow
import Derived.Lib.LaidTab
import Derived.Deep.Slices
import Derived.Test.YtcangaoamhaagaaChecked
namespace Go.Proofs.Ytcangaoamhaagaa
open Go.RowKit Go.Shelf
set_option linter.unusedVariables false

theorem own_rdp_len {w : World} {v : Value} {ks : List (List Nat)} (h : RdP w v ks) : ∃ a cap, v = .slice a ks.length cap := by
  obtain ⟨_, a, cap, h2, _⟩ := h
  exact ⟨a, cap, h2⟩
theorem rdp_at {w : World} {a : Option Addr} {n cap : Nat} {ks : List (List Nat)} (h : RdP w (.slice a n cap) ks) (i : Nat) (hi : i < n) : ∃ b off u, a = some ⟨b, off, none⟩ ∧ w.cell? ⟨b, off + i, none⟩ = some u ∧ Rd w u (ks.getD i []) := by
  obtain ⟨_, a1, c1, h2, hp⟩ := h
  simp only [Value.slice.injEq] at h2
  obtain ⟨rfl, rfl, rfl⟩ := h2
  rcases hp with rfl | ⟨b, off, rfl, hc⟩
  · simp at hi
  · obtain ⟨u, h1, h2⟩ := hc i hi
    exact ⟨b, off, u, rfl, h1, h2⟩

/-- What Build answers, a wrong number of bits or too many keys first. -/
theorem build_cases (b : Int) (ks : List (List Nat)) : (bldE b ks.length = 60 ∨ bldE b ks.length = 61) ∨ (bldE b ks.length = 0 ∧ ∃ bn : Nat, b = (bn : Int) ∧ bn ≤ 20 ∧ ks.length ≤ 1048576 ∧ bldL b ks = buildL bn ks) := by
  unfold bldL bldE
  split
  · exact .inl (.inl rfl)
  · split
    · exact .inl (.inr rfl)
    · refine .inr ⟨rfl, b.toNat, by omega, by omega, by omega, rfl⟩

set_option maxRecDepth 100000 in
set_option maxHeartbeats 4000000 in
theorem neverNo_walk {v1 v2 : Value} {ks qs : List (List Nat)} {w : World} (b : Int) (h1 : RdP w v1 ks) (h2 : RdP w v2 qs) :
    Calls Try.prog 3 #[.int .i64 b, v1, v2] w fun e w' => e = .returned (.bool true) ∧ Below w.heap.size w w' := by
  have H1 : Hid (RdP w v1 ks) := h1
  have H2 : Hid (RdP w v2 qs) := h2
  obtain ⟨a1, c1, rfl⟩ := own_rdp_len h1
  obtain ⟨a2, c2, rfl⟩ := own_rdp_len h2
  clear h1 h2
  have HS : Hid (∀ wx : World, Calls Try.prog 12 #[] wx fun e w' => e = .returned (.bool true) ∧ Below wx.heap.size wx w') := started_any
  have HN : Hid (∀ (z : Int) (wx : World), Calls Try.prog 14 #[.int .i64 z] wx fun e w' => e = .returned (.int .i64 z) ∧ w' = wx) := num_any
  have HB1 : Hid (∀ wx : World, Below w.heap.size w wx → Calls Try.prog 13 #[.int .i64 b, .slice a1 ks.length c1] wx fun e w' => ∃ a m c, e = .returned (.tuple #[.slice a m c, .int .i64 ((bldE b ks.length : Nat) : Int)]) ∧ Own w' wx.heap.size (.slice a m c) m (bldL b ks) ∧ Below wx.heap.size wx w') := fun wx hx => build_any b (H1.out.later hx)
  have HB2 : Hid (∀ wx : World, Below w.heap.size w wx → Calls Try.prog 13 #[.int .i64 b, .slice a2 qs.length c2] wx fun e w' => ∃ a m c, e = .returned (.tuple #[.slice a m c, .int .i64 ((bldE b qs.length : Nat) : Int)]) ∧ Own w' wx.heap.size (.slice a m c) m (bldL b qs) ∧ Below wx.heap.size wx w') := fun wx hx => build_any b (H2.out.later hx)
  have bad : ∀ (ks : List (List Nat)), bldE b ks.length = 60 ∨ bldE b ks.length = 61 → bldL b ks = [] := by
    intro ks h
    unfold bldL
    rcases h with h | h <;> rw [h] <;> rfl
  rcases build_cases b ks with hbad | ⟨hok, bn, rfl, hb20, hk20, hbl⟩
  · have hl := bad ks hbad
    rw [hl] at HB1
    obtain ⟨E, hE, hE0⟩ : ∃ E : Nat, E = bldE b ks.length ∧ E ≠ 0 := ⟨_, rfl, by omega⟩
    rw [← hE] at HB1
    have hE1 : ((E : Int) != 0) = true := by simp; omega
    clear hE hbad hl bad HB2
    generalize ks.length = nk at *
    go_enter Try.func3, Try.ntmps3
    go_wp2_with (first | (go_at_call 12; refine Calls.mono (HS.out _) ?_; rintro e1 w1 ⟨rfl, b1⟩) | (go_at_call 13; refine Calls.mono (HB1.out _ b1) ?_; rintro e2 w2 ⟨a3, m3, c3, rfl, own3, b2⟩; have hm3 : m3 = 0 := own3.1; subst hm3; clear own3) | (go_at_call 14; refine Calls.mono (HN.out _ _) ?_; rintro e4 w4 ⟨rfl, rfl⟩))
    go_ret
    exact ⟨rfl, b1.trans (b2.mono b1.size)⟩
  · rw [hok, hbl] at HB1
    obtain ⟨nk, hnk⟩ : ∃ nk, nk = ks.length := ⟨_, rfl⟩
    rw [← hnk] at HB1 H1 ⊢
    have HNK : Hid (nk = ks.length) := hnk
    have hnk2 : nk ≤ 1048576 := by omega
    clear hnk hok hbl
    rcases build_cases (bn : Int) qs with hbad | ⟨hok, bn', hbe, hb20', hq20, hbl⟩
    · have hl := bad qs hbad
      rw [hl] at HB2
      obtain ⟨E, hE, hE0⟩ : ∃ E : Nat, E = bldE (bn : Int) qs.length ∧ E ≠ 0 := ⟨_, rfl, by omega⟩
      rw [← hE] at HB2
      have hE1 : ((E : Int) != 0) = true := by simp; omega
      clear hE hbad hl bad
      generalize qs.length = nq at *
      go_enter Try.func3, Try.ntmps3
      go_wp2_with (first | (go_at_call 12; refine Calls.mono (HS.out _) ?_; rintro e1 w1 ⟨rfl, b1⟩) | (have BB := b2; go_at_call 13; refine Calls.mono (HB2.out _ (b1.trans (b2.mono b1.size))) ?_; rintro e5 w5 ⟨a5, m5, c5, rfl, own5, b5⟩; have hm5 : m5 = 0 := own5.1; subst hm5; clear own5) | (go_at_call 13; refine Calls.mono (HB1.out _ b1) ?_; rintro e2 w2 ⟨a3, m3, c3, rfl, own3, b2⟩) | (go_at_call 14; refine Calls.mono (HN.out _ _) ?_; rintro e4 w4 ⟨rfl, rfl⟩))
      go_ret
      exact ⟨rfl, (b1.trans (b2.mono b1.size)).trans (b5.mono (Nat.le_trans b1.size b2.size))⟩
    · have hbb : bn = bn' := by omega
      subst hbb
      rw [hok, hbl] at HB2
      obtain ⟨nq, hnq⟩ : ∃ nq, nq = qs.length := ⟨_, rfl⟩
      rw [← hnq] at HB2 H2 ⊢
      have hq20' : qs.length ≤ 1048576 := hq20
      have hk20' : ks.length ≤ 1048576 := hk20
      have hlF := build_len hb20 hk20
      have hlG := build_len hb20 hq20
      have HF : Hid (Bys (buildL bn ks) ∧ good (buildL bn ks) = true ∧ ∀ k ∈ ks, hasB (buildL bn ks) k = true) := ⟨build_bys hb20 hk20, (good_build hb20 hk20).1, fun k hk => by unfold hasB; rw [(has_key hb20 hk20 hk).1, (has_key hb20 hk20 hk).2]; rfl⟩
      have HG : Hid (Bys (buildL bn qs)) := build_bys hb20 hq20
      have HU : Hid (∀ (wx : World) (va vb : Value), Rd wx va (buildL bn ks) → Rd wx vb (buildL bn qs) → Calls Try.prog 15 #[va, vb] wx fun e w' => ∃ a m c, e = .returned (.tuple #[.slice a m c, .int .i64 ((uniE (buildL bn ks) (buildL bn qs) : Nat) : Int)]) ∧ Own w' wx.heap.size (.slice a m c) m (uniL (buildL bn ks) (buildL bn qs)) ∧ Below wx.heap.size wx w') := fun wx va vb ha hb => union_any ha hb
      have HC : Hid (∀ (wx : World) (va : Value) (L : List Nat), Rd wx va L → good L = true → Calls Try.prog 17 #[va] wx fun e w' => e = .returned (.int .i64 0) ∧ Below wx.heap.size wx w') := fun wx va L h hg => Calls.mono (check_any h) fun e w' h => ⟨by rw [h.1]; unfold chkE; rw [hg]; rfl, h.2⟩
      have HHas : Hid (∀ (wx : World) (va vb : Value) (L k : List Nat), Rd wx va L → Rd wx vb k → good L = true → hasB L k = true → Calls Try.prog 16 #[va, vb] wx fun e w' => e = .returned (.tuple #[.bool true, .int .i64 0]) ∧ Below wx.heap.size wx w') := fun wx va vb L k h1 h2 hg hh => Calls.mono (has_any h1 h2) fun e w' h => ⟨by rw [h.1, hh]; unfold chkE; rw [hg]; rfl, h.2⟩
      have huu : Hid (∀ k ∈ ks, uniE (buildL bn ks) (buildL bn qs) = 0 → good (unionL (buildL bn ks) (buildL bn qs)) = true ∧ hasB (unionL (buildL bn ks) (buildL bn qs)) k = true) := fun k hk hu => by
        have h1 := has_union (k := k) hb20 hk20 hq20 hu
        exact ⟨h1.1, by unfold hasB; rw [h1.1, h1.2 hk]; rfl⟩
      have hug : Hid (uniE (buildL bn ks) (buildL bn qs) = 0 → good (unionL (buildL bn ks) (buildL bn qs)) = true) := fun hu => (has_union (k := []) hb20 hk20 hq20 hu).1
      have hub : Hid (Bys (unionL (buildL bn ks) (buildL bn qs))) := unionL_bys HF.out.1 HG.out
      have hul0 : (unionL (buildL bn ks) (buildL bn qs)).length ≤ 7000000 := by unfold unionL; simp only [List.length_append, List.length_take, List.length_zipWith, List.length_drop]; omega
      have hul : Hid ((unionL (buildL bn ks) (buildL bn qs)).length ≤ 7000000) := hul0
      clear hul0
      have huo := uni_or hb20 hk20 hq20
      clear hok hbl hbe hb20' bad hnq hq20 hk20 hq20' hk20' hb20
      generalize buildL bn ks = F at *
      generalize buildL bn qs = G at *
      rcases huo with hu | hu
      · have hul2 : uniL F G = unionL F G := by unfold uniL; rw [hu]; rfl
        rw [hul2] at HU
        rw [hu] at HU
        have hgu := hug.out hu
        generalize unionL F G = X at *
        go_enter Try.func3, Try.ntmps3
        go_wp2_with (first | (go_at_call 12; refine Calls.mono (HS.out _) ?_; rintro e1 w1 ⟨rfl, b1⟩) | (have BB := b2; go_at_call 13; refine Calls.mono (HB2.out _ b2) ?_; rintro e5 w5 ⟨a5, m5, c5, rfl, own5, b5'⟩; have b5 : Below w.heap.size w w5 := b2.trans (b5'.mono b2.size); have rG : Hid (Rd w5 (.slice a3 m3 c3) F ∧ Rd w5 (.slice a5 m5 c5) G) := ⟨rF.out.later b5', own5.rd HG.out (by rw [own5.1]; omega)⟩; clear own5 b5') | (go_at_call 13; refine Calls.mono (HB1.out _ b1) ?_; rintro e2 w2 ⟨a3, m3, c3, rfl, own3, b2'⟩; have b2 : Below w.heap.size w w2 := b1.trans (b2'.mono b1.size); have rF : Hid (Rd w2 (.slice a3 m3 c3) F) := own3.rd HF.out.1 (by rw [own3.1]; omega); clear own3 b2') | (go_at_call 14; refine Calls.mono (HN.out _ _) ?_; rintro e4 w4 ⟨rfl, rfl⟩) | (go_at_call 15; refine Calls.mono (HU.out _ _ _ rG.out.1 rG.out.2) ?_; rintro e6 w6 ⟨a6, m6, c6, rfl, own6, b6'⟩; have b6 : Below w.heap.size w w6 := b5.trans (b6'.mono b5.size); have rU : Hid (Rd w6 (.slice a3 m3 c3) F ∧ Rd w6 (.slice a6 m6 c6) X) := ⟨rG.out.1.later b6', own6.rd hub.out (by have := hul.out; rw [own6.1]; omega)⟩; clear own6 b6'))
        have HW6 : Hid (Below w.heap.size w w6) := b6
        go_loopw [13] (fun i wr => ∃ k : Nat, k ≤ nk ∧ i = .int .i64 (k : Int) ∧ Hid (Below w6.heap.size w6 wr)) (fun i _ => nk - (intOf i).toNat)
        case atStart => exact ⟨0, Nat.zero_le _, rfl, Below.refl _ _⟩
        case round =>
          obtain ⟨k, hk, rfl, HI⟩ := hrel
          by_cases hlt : k < nk
          · have hlt2 : (k : Int) < (nk : Int) := by omega
            have bwr : Below w.heap.size w wr := HW6.out.trans (HI.out.mono HW6.out.size)
            obtain ⟨bk, fk, u, rfl, hcu, hru⟩ := rdp_at (H1.out.later bwr) k hlt
            obtain ⟨au, nu, cu, rfl⟩ : ∃ a n cap, u = .slice a n cap := by obtain ⟨_, a1, c1, h2, _⟩ := hru; exact ⟨_, _, _, h2⟩
            have hmem : ks.getD k [] ∈ ks := by
              have hkl : k < ks.length := by rw [← HNK.out]; exact hlt
              rw [show ks.getD k [] = ks[k] by simp [List.getD, hkl]]
              exact List.getElem_mem hkl
            have HRU : Hid (Rd wr (.slice au nu cu) (ks.getD k []) ∧ ks.getD k [] ∈ ks) := ⟨hru, hmem⟩
            clear hru hmem bwr
            go_wp2_with (first | (go_at_call_of 16 (Value.slice a3 m3 c3); refine Calls.mono (HHas.out _ _ _ F (ks.getD k []) (rU.out.1.later HI.out) HRU.out.1 HF.out.2.1 (HF.out.2.2 _ HRU.out.2)) ?_; rintro e7 w7 ⟨rfl, b7⟩; have x7 := (b7.cell (p := ⟨bk, fk + k, none⟩) (World.block_lt_of_cell? _ _ hcu)).trans hcu) | (have B7 := b7; go_at_call 16; refine Calls.mono (HHas.out _ _ _ X (ks.getD k []) ((rU.out.2.later HI.out).later b7) (HRU.out.1.later b7) hgu (huu.out _ HRU.out.2 hu).2) ?_; rintro e8 w8 ⟨rfl, b8⟩) | (go_at_call 14; refine Calls.mono (HN.out _ _) ?_; rintro e4 w4 ⟨rfl, rfl⟩))
            go_roundw
            case rel => exact ⟨k + 1, by omega, by go_num, (HI.out.trans (b7.mono HI.out.size)).trans (b8.mono (Nat.le_trans HI.out.size b7.size))⟩
            case measure => simp [intOf]; omega
          · go_wp2_with (first | (go_at_call_of 17 (Value.slice a3 m3 c3); refine Calls.mono (HC.out _ _ F (rU.out.1.later HI.out) HF.out.2.1) ?_; rintro e7 w7 ⟨rfl, b7⟩) | (have B7 := b7; go_at_call 17; refine Calls.mono (HC.out _ _ X ((rU.out.2.later HI.out).later b7) hgu) ?_; rintro e8 w8 ⟨rfl, b8⟩) | (go_at_call 14; refine Calls.mono (HN.out _ _) ?_; rintro e4 w4 ⟨rfl, rfl⟩))
            go_ret
            exact ⟨rfl, ((HW6.out.trans (HI.out.mono HW6.out.size)).trans (b7.mono (Nat.le_trans HW6.out.size HI.out.size))).trans (b8.mono (Nat.le_trans (Nat.le_trans HW6.out.size HI.out.size) b7.size))⟩
      · have hul2 : uniL F G = [] := by unfold uniL; rw [hu]; rfl
        rw [hul2] at HU
        rw [hu] at HU
        go_enter Try.func3, Try.ntmps3
        go_wp2_with (first | (go_at_call 12; refine Calls.mono (HS.out _) ?_; rintro e1 w1 ⟨rfl, b1⟩) | (have BB := b2; go_at_call 13; refine Calls.mono (HB2.out _ b2) ?_; rintro e5 w5 ⟨a5, m5, c5, rfl, own5, b5'⟩; have b5 : Below w.heap.size w w5 := b2.trans (b5'.mono b2.size); have rG : Hid (Rd w5 (.slice a3 m3 c3) F ∧ Rd w5 (.slice a5 m5 c5) G) := ⟨rF.out.later b5', own5.rd HG.out (by rw [own5.1]; omega)⟩; clear own5 b5') | (go_at_call 13; refine Calls.mono (HB1.out _ b1) ?_; rintro e2 w2 ⟨a3, m3, c3, rfl, own3, b2'⟩; have b2 : Below w.heap.size w w2 := b1.trans (b2'.mono b1.size); have rF : Hid (Rd w2 (.slice a3 m3 c3) F) := own3.rd HF.out.1 (by rw [own3.1]; omega); clear own3 b2') | (go_at_call 14; refine Calls.mono (HN.out _ _) ?_; rintro e4 w4 ⟨rfl, rfl⟩) | (go_at_call 15; refine Calls.mono (HU.out _ _ _ rG.out.1 rG.out.2) ?_; rintro e6 w6 ⟨a6, m6, c6, rfl, own6, b6'⟩; have b6 : Below w.heap.size w w6 := b5.trans (b6'.mono b5.size); have rU : Hid (Rd w6 (.slice a3 m3 c3) F ∧ True) := ⟨rG.out.1.later b6', trivial⟩; have hm6 : m6 = 0 := own6.1; subst hm6; clear own6 b6'))
        have HW6 : Hid (Below w.heap.size w w6) := b6
        go_loopw [13] (fun i wr => ∃ k : Nat, k ≤ nk ∧ i = .int .i64 (k : Int) ∧ Hid (Below w6.heap.size w6 wr)) (fun i _ => nk - (intOf i).toNat)
        case atStart => exact ⟨0, Nat.zero_le _, rfl, Below.refl _ _⟩
        case round =>
          obtain ⟨k, hk, rfl, HI⟩ := hrel
          by_cases hlt : k < nk
          · have hlt2 : (k : Int) < (nk : Int) := by omega
            have bwr : Below w.heap.size w wr := HW6.out.trans (HI.out.mono HW6.out.size)
            obtain ⟨bk, fk, u, rfl, hcu, hru⟩ := rdp_at (H1.out.later bwr) k hlt
            obtain ⟨au, nu, cu, rfl⟩ : ∃ a n cap, u = .slice a n cap := by obtain ⟨_, a1, c1, h2, _⟩ := hru; exact ⟨_, _, _, h2⟩
            have hmem : ks.getD k [] ∈ ks := by
              have hkl : k < ks.length := by rw [← HNK.out]; exact hlt
              rw [show ks.getD k [] = ks[k] by simp [List.getD, hkl]]
              exact List.getElem_mem hkl
            have HRU : Hid (Rd wr (.slice au nu cu) (ks.getD k []) ∧ ks.getD k [] ∈ ks) := ⟨hru, hmem⟩
            clear hru hmem bwr
            go_wp2_with (first | (go_at_call_of 16 (Value.slice a3 m3 c3); refine Calls.mono (HHas.out _ _ _ F (ks.getD k []) (rU.out.1.later HI.out) HRU.out.1 HF.out.2.1 (HF.out.2.2 _ HRU.out.2)) ?_; rintro e7 w7 ⟨rfl, b7⟩; have x7 := (b7.cell (p := ⟨bk, fk + k, none⟩) (World.block_lt_of_cell? _ _ hcu)).trans hcu) | (go_at_call 14; refine Calls.mono (HN.out _ _) ?_; rintro e4 w4 ⟨rfl, rfl⟩))
            go_roundw
            case rel => exact ⟨k + 1, by omega, by go_num, HI.out.trans (b7.mono HI.out.size)⟩
            case measure => simp [intOf]; omega
          · go_wp2_with (first | (go_at_call_of 17 (Value.slice a3 m3 c3); refine Calls.mono (HC.out _ _ F (rU.out.1.later HI.out) HF.out.2.1) ?_; rintro e7 w7 ⟨rfl, b7⟩) | (go_at_call 14; refine Calls.mono (HN.out _ _) ?_; rintro e4 w4 ⟨rfl, rfl⟩))
            go_ret
            exact ⟨rfl, (HW6.out.trans (HI.out.mono HW6.out.size)).trans (b7.mono (Nat.le_trans HW6.out.size HI.out.size))⟩
end Go.Proofs.Ytcangaoamhaagaa

namespace Go.Proofs.Ytcangaoamhaagaa
open Go.ChangeShapes Go.WideShapes Go.ChangeAt Go.RowKit
set_option linter.unusedVariables false

theorem own_knob : ownKnob Try.prog.godebug = none := by kernel_rfl
theorem laid_out : laidOutB Try.prog = true := by kernel_rfl
theorem und_int : Try.prog.underlying 3 = some (.int .i64) := by kernel_rfl
theorem und_u64 : Try.prog.underlying 85 = some (.int .u64) := by kernel_rfl
theorem und_bool : Try.prog.underlying 4 = some .bool := by kernel_rfl
theorem cells_byte : Try.prog.cellsOf 5 = 1 := by kernel_rfl
theorem cells_bytes : Try.prog.cellsOf 24 = 1 := by kernel_rfl

theorem bulk_pos {H : Type} (d : DataW H) : 1 ≤ Rows.uptoBulk d := by
  cases d with
  | lit l => cases l <;> simp [Rows.uptoBulk]
  | nil => simp [Rows.uptoBulk]
  | ptr d => simp [Rows.uptoBulk]
  | slice elems spare => simp [Rows.uptoBulk]
  | agg parts => simp [Rows.uptoBulk]
  | iface t d => simp [Rows.uptoBulk]
  | map entries => simp [Rows.uptoBulk]
  | held h => simp [Rows.uptoBulk]
theorem bulk_len {H : Type} (l : List (DataW H)) : l.length ≤ Rows.uptoBulkAll l := by
  induction l with
  | nil => simp [Rows.uptoBulkAll]
  | cons x r ih => have := bulk_pos x; simp only [Rows.uptoBulkAll, List.length_cons]; omega

/-- A slice of bytes that came in. -/
theorem open_bytes {H : Type} {enc : TypeId × Value → H} {W : World} {v : Value} {d : DataW H} {p : List MemPlace} {base : Nat} {held : Bool} (h : DataW.Trod enc Try.prog W base (fun _ => true) held 24 v d p) (hs : ∃ a n c, v = .slice a n c) :
    ∃ bs : List Nat, (bs.length ≤ 281474976710656 → Rd W v bs) ∧ bs.length + 1 ≤ Rows.uptoBulk d ∧ (bs = [] ∨ ∃ elems spare, d = .slice elems spare ∧ elems.length = bs.length) := by
  obtain ⟨a, n, c, rfl⟩ := hs
  obtain ⟨fuel, hf⟩ := h
  rcases open_ints und_bytes und_byte cells_byte hf with ⟨hcs, hx⟩ | ⟨x, l, c', zs, hcs, _, hl, hm, hz, hx, hcell, hwz⟩
  · simp [Value.cells] at hcs
    obtain ⟨rfl, rfl, rfl⟩ := hcs
    refine ⟨[], fun _ => Rd.nil W, ?_, .inl rfl⟩
    have := bulk_pos d
    simpa using this
  · simp [Value.cells] at hcs
    obtain ⟨rfl, rfl, rfl⟩ := hcs
    simp only [if_true] at hz
    simp only [Prod.mk.injEq] at hx
    obtain ⟨rfl, _⟩ := hx
    have hby : ∀ i, i < zs.length → 0 ≤ zs.getD i 0 ∧ zs.getD i 0 < 256 := by
      intro i hi
      have hmem : zs.getD i 0 ∈ zs := by simp [List.getD, List.getElem?_eq_getElem hi]
      have := bounds_u8 (hwz _ hmem)
      omega
    refine ⟨(zs.take n).map Int.toNat, fun hlen => ⟨?_, some x, c, ?_, ?_, hm, hlen, ?_, ?_⟩, ?_, .inr ⟨_, _, rfl, by simp [lits]⟩⟩
    · intro y hy
      simp only [List.mem_map] at hy
      obtain ⟨z, hz1, rfl⟩ := hy
      have := bounds_u8 (hwz z (List.mem_of_mem_take hz1))
      omega
    · simp; omega
    · simp; omega
    · by_cases hc0 : c = 0
      · exact .inl hc0
      · right
        obtain ⟨b, off, spot⟩ := x
        have hc := hcell 0 (by omega)
        have hspot : spot = none := by simpa [Addr.add] using World.cell?_spot hc
        subst hspot
        exact ⟨b, off, rfl⟩
    · by_cases hn0 : n = 0
      · left; simp [hn0]
      · right
        obtain ⟨b, off, spot⟩ := x
        have hc := hcell 0 (by omega)
        have hspot : spot = none := by simpa [Addr.add] using World.cell?_spot hc
        subst hspot
        refine ⟨b, off, rfl, fun i hi => ?_⟩
        have hin : i < n := by simp at hi; omega
        have hc := hcell i (by omega)
        have e : (⟨b, off, none⟩ : Addr).add i = ⟨b, off + i, none⟩ := by unfold Addr.add; split <;> simp_all
        rw [e] at hc
        rw [hc]
        have hb := hby i (by omega)
        have e2 : ((zs.take n).map Int.toNat).getD i 0 = (zs.getD i 0).toNat := by
          simp [List.getElem?_take_of_lt hin, List.getElem?_eq_getElem (show i < zs.length by omega)]
        rw [e2, Int.toNat_of_nonneg hb.1]
    · have h1 := bulk_len (H := H) (lits .u8 (zs.take n))
      simp only [Rows.uptoBulk]
      simp [lits] at h1 ⊢
      omega

/-- What the reach gives of a slice of bytes. -/
theorem reach_bytes {H : Type} {ts : List TypeId} {ds gs : List (DataW H)} (h : (DataW.weightsEach Try.prog ts (ds ++ gs)).all (fun x => decide (x ≤ reachBytes)) = true) (j : Nat) (ht : ts[j]? = some 24) {d : DataW H} (hd : ds[j]? = some d) {bs : List Nat} (hx : bs = [] ∨ ∃ elems spare, d = .slice elems spare ∧ elems.length = bs.length) : bs.length ≤ 140737488351232 := by
  rcases hx with rfl | ⟨elems, spare, rfl, hl⟩
  · simp
  · have hd2 : (ds ++ gs)[j]? = some (.slice elems spare) := by
      rw [List.getElem?_append_left (List.getElem?_eq_some_iff.1 hd).1]
      exact hd
    have := sized_slice h ht hd2 und_bytes
    rw [show Try.prog.bytesOf 5 = 1 by kernel_rfl] at this
    unfold reachBytes at this
    omega

end Go.Proofs.Ytcangaoamhaagaa

namespace Go.Proofs.Ytcangaoamhaagaa
open Go.ChangeShapes Go.WideShapes Go.ChangeAt Go.RowKit
set_option linter.unusedVariables false

/-- The weights of one argument. -/
theorem weight_atP {H : Type} : ∀ {ts : List TypeId} {ds : List (DataW H)} (h : (DataW.weightsEach Try.prog ts ds).all (fun x => decide (x ≤ reachBytes)) = true) (j : Nat) {t : TypeId} {d : DataW H} (ht : ts[j]? = some t) (hd : ds[j]? = some d), (d.weights Try.prog t).all (fun x => decide (x ≤ reachBytes)) = true
  | [], _, _, j, _, _, ht, _ => by simp at ht
  | _ :: _, [], _, j, _, _, _, hd => by simp at hd
  | t :: ts, d :: ds, h, 0, _, _, ht, hd => by
    simp only [List.getElem?_cons_zero, Option.some.injEq] at ht hd
    subst ht hd
    simp only [DataW.weightsEach, List.all_append, Bool.and_eq_true] at h
    exact h.1
  | t :: ts, d :: ds, h, j + 1, _, _, ht, hd => by
    simp only [DataW.weightsEach, List.all_append, Bool.and_eq_true] at h
    exact weight_atP h.2 j (by simpa using ht) (by simpa using hd)
theorem weight_all {H : Type} {e : TypeId} : ∀ {ds : List (DataW H)} (h : (DataW.weightsAll Try.prog e ds).all (fun x => decide (x ≤ reachBytes)) = true) {d : DataW H} (hd : d ∈ ds), (d.weights Try.prog e).all (fun x => decide (x ≤ reachBytes)) = true
  | [], _, _, hd => by cases hd
  | x :: ds, h, d, hd => by
    simp only [DataW.weightsAll, List.all_append, Bool.and_eq_true] at h
    rcases List.mem_cons.1 hd with rfl | hd
    · exact h.1
    · exact weight_all h.2 hd

/-- A slice of slices of bytes that came in, however long. -/
theorem open_partsF {H : Type} {enc : TypeId × Value → H} {W : World} {v : Value} {d : DataW H} {p : List MemPlace} {base : Nat} {held : Bool} (h : DataW.Trod enc Try.prog W base (fun _ => true) held 22 v d p) (hs : ∃ a n c, v = .slice a n c)
    (hk : (d.weights Try.prog 22).all (fun x => decide (x ≤ reachBytes)) = true) : ∃ ps : List (List Nat), RdP W v ps := by
  obtain ⟨a, n, c, rfl⟩ := hs
  obtain ⟨fuel, hf⟩ := h
  rcases Deep.open_slice1 und_parts cells_bytes hf with ⟨hcs, hx⟩ | ⟨x, l, c', m, k, V, D, Pl, hcs, _, hl, hm, hmm, hx, hel⟩
  · simp [Value.cells] at hcs
    obtain ⟨rfl, rfl, rfl⟩ := hcs
    exact ⟨[], by simp, none, 0, rfl, .inl rfl⟩
  · simp [Value.cells] at hcs
    obtain ⟨rfl, rfl, rfl⟩ := hcs
    simp only [if_true] at hmm
    simp only [Prod.mk.injEq] at hx
    obtain ⟨hx1, _⟩ := hx
    have hn : n ≤ 281474976710656 := by
      have hs2 : (DataW.weightsEach Try.prog [22] ([d] ++ [])).all (fun x => decide (x ≤ reachBytes)) = true := by simpa [DataW.weightsEach] using hk
      rw [hx1] at hs2
      have := sized_slice hs2 (j := 0) (t := 22) rfl rfl und_parts
      rw [show Try.prog.bytesOf 24 = 24 by kernel_rfl] at this
      simp at this
      unfold reachBytes at this
      omega
    have hw : ∀ j, j < n → ((D j).weights Try.prog 24).all (fun x => decide (x ≤ reachBytes)) = true := by
      intro j hj
      rw [hx1] at hk
      simp only [DataW.weights, und_parts, List.all_cons, List.all_append, Bool.and_eq_true] at hk
      exact weight_all hk.2.1 (by simp only [List.mem_map, List.mem_range]; exact ⟨j, hj, rfl⟩)
    have sum_le : ∀ j, j ≤ n → ∃ ps : List (List Nat), ps.length = j ∧ (∀ i, i < j → Rd W (V i) (ps.getD i [])) := by
      intro j
      induction j with
      | zero => intro _; exact ⟨[], rfl, fun i hi => by omega⟩
      | succ j ih =>
        intro hj
        obtain ⟨ps, hpl, hrd⟩ := ih (by omega)
        obtain ⟨hcell, htr⟩ := hel j (by omega)
        have hsl : ∃ a n c, V j = .slice a n c := by
          rcases DataW.trod_slice und_bytes htr with ⟨h0, _⟩ | ⟨a, len, cap, _, _, _, _, h0, _⟩
          · simp at h0; exact ⟨_, _, _, h0⟩
          · simp at h0; exact ⟨_, _, _, h0⟩
        have htr2 : DataW.Trod enc Try.prog W base (fun _ => true) held 24 (V j) (D j) (Pl j) := by
          obtain ⟨a, n, c, hv⟩ := hsl
          refine ⟨k, ?_⟩
          rw [hv] at htr ⊢
          simpa [Value.cells] using htr
        obtain ⟨bs, hbs, hbl, hfm⟩ := open_bytes htr2 hsl
        have hlen : bs.length ≤ 281474976710656 := by
          have hs2 : (DataW.weightsEach Try.prog [24] ([D j] ++ [])).all (fun x => decide (x ≤ reachBytes)) = true := by simpa [DataW.weightsEach] using hw j (by omega)
          have := reach_bytes hs2 0 rfl rfl hfm
          omega
        refine ⟨ps ++ [bs], by simp [hpl], ?_⟩
        intro i hi
        by_cases hij : i < j
        · have := hrd i hij
          have e : (ps ++ [bs]).getD i [] = ps.getD i [] := by simp [List.getD, List.getElem?_append_left (show i < ps.length by omega)]
          rw [e]
          exact this
        · have hij2 : i = j := by omega
          subst hij2
          have e : (ps ++ [bs]).getD i [] = bs := by simp [List.getD, hpl]
          rw [e]
          exact hbs hlen
    obtain ⟨ps, hpl, hrd⟩ := sum_le n (Nat.le_refl _)
    refine ⟨ps, by omega, some x, c, by rw [hpl], ?_⟩
    by_cases hn0 : n = 0
    · left; exact List.eq_nil_of_length_eq_zero (by omega)
    · right
      obtain ⟨b, off, spot⟩ := x
      have hc := (hel 0 (by omega)).1
      have hspot : spot = none := by simpa [Addr.add] using World.cell?_spot hc
      subst hspot
      refine ⟨b, off, rfl, fun i hi => ⟨V i, ?_, hrd i (by omega)⟩⟩
      have hc := (hel i (by omega)).1
      have e : (⟨b, off, none⟩ : Addr).add i = ⟨b, off + i, none⟩ := by unfold Addr.add; split <;> simp_all
      rw [e] at hc
      exact hc

end Go.Proofs.Ytcangaoamhaagaa

namespace Go.Proofs.Ytcangaoamhaagaa.bloomNeverNoRow
open Go.ChangeShapes Go.WideShapes Go.ChangeAt Go.RowKit
set_option linter.unusedVariables false

set_option maxRecDepth 100000 in
theorem contract (H : Type) (enc : TypeId × Value → H) (W : World) (base : Nat) (args : Array Value) (ds gs : List (DataW H)) (before : List MemPlace)
    (hval0 : ∀ (j : Nat) t v, Try.f3.params[j]? = some t → args[j]? = some v → Value.okWide Try.prog W .any base t v)
    (hW : DataW.Whole enc Try.prog Try.f3.params.toList Rows.bloomNeverNoSpec.vars false W args.toList ds gs before) (hsz : (DataW.weightsEach Try.prog (Try.f3.params.toList ++ DataSpec.varTypes Try.prog (OpenSpec.ofChange Rows.bloomNeverNoSpec).bare.plain) (ds ++ gs)).all (fun x => decide (x ≤ reachBytes)) = true) :
    Calls Try.prog 3 args W fun e W' => ∃ v, e = .returned v ∧ Rows.bloomNeverNoSpec.post enc Try.prog Try.f3 false true false false W args v W' := by
  have hW' := hW
  obtain ⟨p, q, hA0, hV, rfl, hfz, hnd⟩ := hW
  have hA : DataW.TrodAll enc Try.prog W 0 (fun _ => true) true Try.f3.params.toList args.toList ds p := hA0
  have hval := hval0
  rw [Try.params3] at hA hval
  obtain ⟨v0, vs0, d0, ds0, p0, q0, hargs, rfl, rfl, h0, r0⟩ := trodAll_cons hA
  obtain ⟨v1, vs1, d1, ds1, p1, q1, rfl, rfl, rfl, h1, r1⟩ := trodAll_cons r0
  obtain ⟨v2, vs2, d2, ds2, p2, q2, rfl, rfl, rfl, h2, r2⟩ := trodAll_cons r1
  obtain ⟨rfl, rfl, rfl⟩ := trodAll_nil r2
  obtain rfl : args = #[v0, v1, v2] := by cases args; simp_all
  obtain ⟨rfl, rfl⟩ := trodVars_none hV
  have hsz2 : (DataW.weightsEach Try.prog [3, 22, 22] ([d0, d1, d2] ++ [])).all (fun x => decide (x ≤ reachBytes)) = true := by
    have e : Try.f3.params.toList ++ DataSpec.varTypes Try.prog (OpenSpec.ofChange Rows.bloomNeverNoSpec).bare.plain = [3, 22, 22] := by kernel_rfl
    rw [e] at hsz
    exact hsz
  obtain ⟨x0, rfl, rfl, rfl, wf0⟩ := open_int und_int (hval 0 3 v0 rfl rfl) h0
  have s1 := okWide_slice und_parts (hval 1 22 v1 rfl rfl)
  have k1 := h1
  have lt1 : ∀ x ∈ p1, x.block < W.heap.size := by obtain ⟨m, hm⟩ := k1; exact DataW.trod_lt m _ _ _ hm
  obtain ⟨x1, rd1⟩ := open_partsF h1 s1 (weight_atP hsz2 1 rfl rfl)
  have s2 := okWide_slice und_parts (hval 2 22 v2 rfl rfl)
  have k2 := h2
  have lt2 : ∀ x ∈ p2, x.block < W.heap.size := by obtain ⟨m, hm⟩ := k2; exact DataW.trod_lt m _ _ _ hm
  obtain ⟨x2, rd2⟩ := open_partsF h2 s2 (weight_atP hsz2 2 rfl rfl)
  clear hA0 hval0
  refine (neverNo_walk x0 rd1 rd2).mono fun e W' ⟨he, bel⟩ => ?_
  subst he
  exact ⟨_, rfl, _, _, _, [], _, [], hW', trodAll_mk1 (shut_bool und_bool _), (trodAll_cons_mk (shut_int und_int wf0) (trodAll_cons_mk (Below.trod laid_out (by kernel_rfl) (of_decide_eq_true (by kernel_rfl)) k1 bel lt1) (trodAll_cons_mk (Below.trod laid_out (by kernel_rfl) (of_decide_eq_true (by kernel_rfl)) k2 bel lt2) trodAll_mk0))), rfl, bel.frame _, fun h => by cases h⟩

theorem laid_met (os : Os) : laidMet Try.prog Rows.bloomNeverNoRow.laid ((World.holding Try.prog os ⟨#[], #[], []⟩ : World).forCall (fun _ _ => 0) ⟨#[], #[.int .i64 0, .slice none 0 0, .slice none 0 0], []⟩).memory :=
  laidMet_of_run' 8 (by kernel_rfl) (by kernel_rfl)
theorem reads (os : Os) {H : Type} (enc : TypeId × Value → H) : ∃ places, DataW.whole enc Try.prog ((World.holding Try.prog os ⟨#[], #[], []⟩ : World).forCall (fun _ _ => 0) ⟨#[], #[.int .i64 0, .slice none 0 0, .slice none 0 0], []⟩).memory Try.f3.params.toList Rows.bloomNeverNoSpec.vars false (#[.int .i64 0, .slice none 0 0, .slice none 0 0] : Array Value).toList 8 = some ([.lit (.int .i64 0), .nil, .nil], [], places) :=
  ⟨[], by kernel_rfl⟩

set_option maxRecDepth 100000 in
theorem lifted (os : Os) (started : os.Started) (H : Type) (enc : TypeId × Value → H) (F : Stop.Interp) :
    ReturnsInHanded {} Try.checked os 3 .any ((OpenSpec.ofChange Rows.bloomNeverNoSpec).preRow enc Try.prog Try.f3 Rows.bloomNeverNoRow.domain false Rows.bloomNeverNoRow.laid) (((OpenSpec.ofChange Rows.bloomNeverNoSpec).at F).post enc Try.prog Try.f3 false true false false) := by
  obtain ⟨places, hx⟩ := reads os enc
  refine returnsInHanded_of_row (C := Try.checked) (s := OpenSpec.ofChange Rows.bloomNeverNoSpec) own_knob started (by kernel_rfl) Try.func3
    (witness_row_at (enc := enc) (C := Try.checked) false (World.holding Try.prog os ⟨#[], #[], []⟩) #[.int .i64 0, .slice none 0 0, .slice none 0 0] rfl (by kernel_rfl) (by kernel_rfl) (by kernel_rfl)
      (OpenSpec.preRow_of_cond 8 hx (by kernel_rfl) (fun k hk => by cases hk) (by kernel_rfl) (laid_met os))) ?_
  intro W base args ds gs before hval hW _ hcond hsz hL _ _
  exact contract H enc W base args ds gs before hval hW hsz

end Go.Proofs.Ytcangaoamhaagaa.bloomNeverNoRow
namespace Go.Proofs.Ytcangaoamhaagaa
open Go.ChangeShapes Go.WideShapes Go.ChangeAt Go.RowKit

theorem bloomNeverNo_holds : Rows.BloomNeverNoSaid :=
  OpenClaim.holds_of_cond 3 Try.f3 rfl rfl rfl rfl rfl rfl rfl ⟨rfl, rfl, rfl, rfl, rfl⟩ rfl rfl rfl rfl rfl (by kernel_rfl) Try.func3 (by kernel_rfl)
    (of_decide_eq_true (by kernel_rfl)) (by unfold Func.isWrapper; first | (rw [if_pos (by decide +kernel)]; kernel_rfl) | (rw [if_neg (by decide +kernel)]; exact ⟨rfl, rfl⟩))
    (fun os started H enc _ F => by rw [OpenClaim.pre_eq_preRow]; exact bloomNeverNoRow.lifted os started H enc F)
#print axioms bloomNeverNo_holds
end Go.Proofs.Ytcangaoamhaagaa
