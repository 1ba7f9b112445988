import Derived.Test.YtieehdhinponcaaJ11
import Derived.Maps.AppendAt
namespace Go.Proofs.Ytieehdhinponcaa
open Go.RowKit
set_option linter.unusedVariables false

set_option maxRecDepth 100000 in
theorem refAlike_any {a b : Value} {xs ys : List Nat} {w : World} (ha : Rd w a xs) (hb : Rd w b ys) :
    Calls Try.prog 50 #[a, b] w fun e w' => e = .returned (.bool (decide (xs = ys))) ∧ w' = w := by
  have h1 := conv_str ha
  have h2 := conv_str hb
  go_enter Try.func50, Try.ntmps50
  go_wp2
  go_ret
  exact ⟨by rw [← beq_str ha.1 hb.1]; rfl, rfl⟩

theorem uniq_take_succ (ks : List (List Nat)) {i : Nat} (hi : i < ks.length) : (uniq (ks.take (i + 1))).length = (uniq (ks.take i)).length + (if ks.getD i [] ∈ ks.take i then 0 else 1) := by
  have e : ks.take (i + 1) = ks.take i ++ [ks.getD i []] := by rw [List.take_add_one, List.getElem?_eq_getElem hi]; simp [List.getD, List.getElem?_eq_getElem hi]
  rw [e, uniq_snoc]
  unfold addK
  by_cases h : ks.getD i [] ∈ ks.take i
  · have h2 : ks.getD i [] ∈ uniq (ks.take i) := mem_uniq.2 h
    rw [if_pos h, if_pos h2, Nat.add_zero]
  · have h2 : ¬ ks.getD i [] ∈ uniq (ks.take i) := fun x => h (mem_uniq.1 x)
    rw [if_neg h, if_neg h2, List.length_append]
    rfl

set_option maxRecDepth 100000 in
set_option maxHeartbeats 1000000 in
theorem refUnlike_any {v : Value} {ks : List (List Nat)} {w : World} (hr : RdP w v ks) (hl : ks.length ≤ 1048576) :
    Calls Try.prog 42 #[v] w fun e w' => e = .returned (.int .i64 (((uniq ks).length : Nat) : Int)) ∧ Below w.heap.size w w' := by
  obtain ⟨a, cap, rfl⟩ := own_rdp_len hr
  obtain ⟨nk, hnk⟩ : ∃ nk, nk = ks.length := ⟨_, rfl⟩
  rw [← hnk] at hr hl ⊢
  have HR : Hid (RdP w (.slice a nk cap) ks) := hr
  have HN : Hid (nk = ks.length) := hnk
  clear hr hnk
  go_enter Try.func42, Try.ntmps42
  go_wp2
  go_loopw [3, 4] (fun n i wr => ∃ q t : Nat, t ≤ nk ∧ q ≤ t ∧ i = .int .i64 (t : Int) ∧ n = .int .i64 (q : Int) ∧ Hid (q = (uniq (ks.take t)).length) ∧ Below w.heap.size w wr) (fun _ i _ => nk - (intOf i).toNat)
  case atStart => exact ⟨0, 0, Nat.zero_le _, Nat.le_refl _, rfl, rfl, (rfl : 0 = (uniq (ks.take 0)).length), Below.refl _ _⟩
  case round =>
    obtain ⟨q, t, ht, hq, rfl, rfl, HQ, hb⟩ := hrel
    by_cases hlt : t < nk
    · have hlt2 : (t : Int) < (nk : Int) := by omega
      obtain ⟨b, off, u, rfl, -, -⟩ := rdp_at HR.out t hlt
      have HCK : Hid (∀ k, k < nk → ∃ u, (∀ wx, Below w.heap.size w wx → wx.cell? ⟨b, off + k, none⟩ = some u ∧ Rd wx u (ks.getD k []))) := by
        have h : ∀ k, k < nk → ∃ u, (∀ wx, Below w.heap.size w wx → wx.cell? ⟨b, off + k, none⟩ = some u ∧ Rd wx u (ks.getD k [])) := fun k hk => by
          obtain ⟨b', off', u', h1, h2, h3⟩ := rdp_at HR.out k hk
          simp only [Option.some.injEq, Addr.mk.injEq, and_true] at h1
          obtain ⟨rfl, rfl⟩ := h1
          exact ⟨u', fun wx hx => ⟨(hx.cell (p := ⟨b, off + k, none⟩) (World.block_lt_of_cell? _ _ h2)).trans h2, h3.later hx⟩⟩
        exact h
      obtain ⟨ut, hut⟩ := HCK.out t hlt
      have HUT : Hid (∀ wx, Below w.heap.size w wx → wx.cell? ⟨b, off + t, none⟩ = some ut ∧ Rd wx ut (ks.getD t [])) := hut
      clear hut
      go_wp2
      go_loopw [5, 6] (fun f i wy => ∃ (k : Nat) (fb : Bool), k ≤ t ∧ i = .int .i64 (k : Int) ∧ f = .bool fb ∧ Hid (fb = false → ks.getD t [] ∈ ks.take t) ∧ Hid (fb = true → ¬ ks.getD t [] ∈ ks.take k) ∧ Below w.heap.size w wy) (fun _ i _ => t - (intOf i).toNat)
      case atStart => exact ⟨0, true, Nat.zero_le _, rfl, rfl, (fun h => by cases h), (fun _ h => by simp at h), hb⟩
      case round =>
        obtain ⟨k, fb, hk, rfl, rfl, H1, H2, hby⟩ := hrel
        have hstep := uniq_take_succ ks (i := t) (by rw [← HN.out]; exact hlt)
        cases fb with
        | false =>
          have hin := H1.out rfl
          rw [if_pos hin] at hstep
          have HS : Hid ((uniq (ks.take (t + 1))).length = (uniq (ks.take t)).length + 0) := hstep
          clear hstep hin
          by_cases hkt : k < t
          · have hkti : (k : Int) < (t : Int) := by omega
            go_wp2
            go_roundw
            case rel => exact ⟨q, t + 1, by omega, by omega, by go_num, rfl, by rw [HS.out, Nat.add_zero]; exact HQ, hby⟩
            case measure => simp [intOf]; omega
          · have hkti : ¬ (k : Int) < (t : Int) := by omega
            go_wp2
            go_roundw
            case rel => exact ⟨q, t + 1, by omega, by omega, by go_num, rfl, by rw [HS.out, Nat.add_zero]; exact HQ, hby⟩
            case measure => simp [intOf]; omega
        | true =>
          by_cases hkt : k < t
          · have hkti : (k : Int) < (t : Int) := by omega
            have hkn : (k : Int) < (nk : Int) := by omega
            obtain ⟨uk, huk⟩ := HCK.out k (by omega)
            have c1 := (HUT.out _ hby).1
            have c2 := (huk _ hby).1
            have d1 := (HUT.out _ hby.drew).1
            have d2 := (huk _ hby.drew).1
            have hbd := hby.drew
            have HAl : Hid (Calls Try.prog 50 #[ut, uk] wr.drew fun e w' => e = .returned (.bool (decide (ks.getD t [] = ks.getD k []))) ∧ w' = wr.drew) := refAlike_any (HUT.out _ hby.drew).2 (huk _ hby.drew).2
            clear huk hstep
            have htk : ks.take (k + 1) = ks.take k ++ [ks.getD k []] := by
              have hkl : k < ks.length := by rw [← HN.out]; omega
              rw [List.take_add_one, List.getElem?_eq_getElem hkl]; simp [List.getD, List.getElem?_eq_getElem hkl]
            by_cases heq : ks.getD t [] = ks.getD k []
            · have HAl2 : Hid (Calls Try.prog 50 #[ut, uk] wr.drew fun e w' => e = .returned (.bool true) ∧ w' = wr.drew) := HAl.out.mono fun e w' h => ⟨by rw [h.1, decide_eq_true heq], h.2⟩
              have hin : ks.getD t [] ∈ ks.take t := by
                rw [heq]
                have hkl : k < ks.length := by rw [← HN.out]; omega
                refine List.mem_iff_getElem?.2 ⟨k, ?_⟩
                rw [List.getElem?_take, if_pos hkt, List.getElem?_eq_getElem hkl]
                simp [List.getD, List.getElem?_eq_getElem hkl]
              have HIN : Hid (ks.getD t [] ∈ ks.take t) := hin
              clear hin HAl htk heq
              go_wp2
              go_region_held3 (fun wx => wx.cell? ⟨b, off + t, none⟩ = some ut ∧ wx.cell? ⟨b, off + k, none⟩ = some uk) (exact ⟨d1, d2⟩) (first | (go_at_call 50; refine Calls.mono HAl2.out ?_; rintro e5 w5 ⟨rfl, rfl⟩))
              go_wp2
              go_roundw
              case rel => exact ⟨k + 1, false, by omega, by go_num, rfl, (fun _ => HIN.out), (fun h => by cases h), hbd⟩
              case measure => simp [intOf]; omega
            · have HAl2 : Hid (Calls Try.prog 50 #[ut, uk] wr.drew fun e w' => e = .returned (.bool false) ∧ w' = wr.drew) := HAl.out.mono fun e w' h => ⟨by rw [h.1, decide_eq_false heq], h.2⟩
              have hno : ¬ ks.getD t [] ∈ ks.take (k + 1) := by
                rw [htk, List.mem_append, List.mem_singleton]
                rintro (h | h)
                · exact H2.out rfl h
                · exact heq h
              have HNO : Hid (¬ ks.getD t [] ∈ ks.take (k + 1)) := hno
              clear hno HAl htk heq
              go_wp2
              go_region_held3 (fun wx => wx.cell? ⟨b, off + t, none⟩ = some ut ∧ wx.cell? ⟨b, off + k, none⟩ = some uk) (exact ⟨d1, d2⟩) (first | (go_at_call 50; refine Calls.mono HAl2.out ?_; rintro e5 w5 ⟨rfl, rfl⟩))
              go_wp2
              go_roundw
              case rel => exact ⟨k + 1, true, by omega, by go_num, rfl, (fun h => by cases h), (fun _ => HNO.out), hbd⟩
              case measure => simp [intOf]; omega
          · have hkti : ¬ (k : Int) < (t : Int) := by omega
            have hke : k = t := by omega
            have hout := H2.out rfl
            rw [hke] at hout
            rw [if_neg hout] at hstep
            have HS : Hid ((uniq (ks.take (t + 1))).length = (uniq (ks.take t)).length + 1) := hstep
            have hz : q + 1 = (uniq (ks.take (t + 1))).length := by rw [HS.out, ← HQ.out]
            have HZ : Hid (q + 1 = (uniq (ks.take (t + 1))).length) := hz
            clear hstep hout hz
            go_wp2
            go_roundw
            case rel => exact ⟨q + 1, t + 1, by omega, by omega, by go_num, by go_num, HZ, hby⟩
            case measure => simp [intOf]; omega
    · have htn : t = nk := by omega
      subst htn
      have hq2 : q = (uniq ks).length := by rw [HQ.out, HN.out, List.take_length]
      go_wp2
      go_ret
      exact ⟨by rw [← hq2]; rfl, hb⟩
end Go.Proofs.Ytieehdhinponcaa

namespace Go.Proofs.Ytieehdhinponcaa
open Go.RowKit
set_option linter.unusedVariables false

theorem keyS_take (ks : List (List Nat)) {i : Nat} (hi : i < ks.length) (p m : Nat) : keyS (ks.take (i + 1)) p m = fun j => keyS (ks.take i) p m j || (placesN (ks.getD i []) p m).contains j := by
  have e : ks.take (i + 1) = ks.take i ++ [ks.getD i []] := by rw [List.take_add_one, List.getElem?_eq_getElem hi]; simp [List.getD, List.getElem?_eq_getElem hi]
  funext j
  rw [e]
  unfold keyS
  rw [List.any_append, List.any_cons, List.any_nil, Bool.or_false]
def midS (S : Nat → Bool) (l : List Nat) (k : Nat) (j : Nat) : Bool := S j || (l.take k).contains j
theorem midS_zero (S : Nat → Bool) (l : List Nat) : midS S l 0 = S := by funext j; simp [midS]
theorem rowB_mid (S : Nat → Bool) (l : List Nat) {m k : Nat} (hk : k < l.length) : (rowB m (midS S l k)).set (l.getD k 0) (.bool true) = rowB m (midS S l (k + 1)) := by
  have e : l.take (k + 1) = l.take k ++ [l.getD k 0] := by rw [List.take_add_one, List.getElem?_eq_getElem hk]; simp [List.getD, List.getElem?_eq_getElem hk]
  generalize l.getD k 0 = z at *
  apply List.ext_getElem?
  intro i
  rw [List.getElem?_set]
  have hl : (rowB m (midS S l k)).length = m := by simp [rowB, bl]
  have hl2 : (rowB m (midS S l (k + 1))).length = m := by simp [rowB, bl]
  by_cases him : i < m
  · by_cases hi : z = i
    · subst hi
      rw [if_pos rfl, if_pos (by omega), rowB_get _ him]
      unfold midS
      rw [e]
      simp
    · rw [if_neg hi, rowB_get _ him, rowB_get _ him]
      unfold midS
      rw [e]
      simp [Ne.symm hi]
  · rw [List.getElem?_eq_none (l := rowB m (midS S l (k + 1))) (by omega)]
    by_cases hi : z = i
    · rw [if_pos hi, if_neg (by omega)]
    · rw [if_neg hi]
      exact List.getElem?_eq_none (by omega)

set_option maxRecDepth 100000 in
set_option maxHeartbeats 2000000 in
theorem refBuild_good {v : Value} {ks : List (List Nat)} {w : World} (bn : Nat) (hb1 : 1 ≤ bn) (hb2 : bn ≤ 20) (hr : RdP w v ks) (hl : ks.length ≤ 1048576) :
    Calls Try.prog 24 #[.int .i64 (bn : Int), v] w fun e w' => ∃ a n c, e = .returned (.tuple #[.slice a n c, .int .i64 0]) ∧ Own w' w.heap.size (.slice a n c) n (buildL bn ks) ∧ Below w.heap.size w w' := by
  obtain ⟨a, cap, rfl⟩ := own_rdp_len hr
  have hpo := pOf_le hb2
  have hmo := mOf_le (n := (uniq ks).length) hb2 (Nat.le_trans (uniq_le ks) hl)
  have HU : Hid (Calls Try.prog 42 #[.slice a ks.length cap] w fun e w' => e = .returned (.int .i64 (((uniq ks).length : Nat) : Int)) ∧ Below w.heap.size w w') := refUnlike_any hr hl
  have HSh : Hid (∀ wx, Calls Try.prog 41 #[.int .i64 (bn : Int), .int .i64 (((uniq ks).length : Nat) : Int)] wx fun e w' => e = .returned (.tuple #[.int .i64 ((pOf bn : Nat) : Int), .int .i64 ((mOf bn (uniq ks).length : Nat) : Int)]) ∧ w' = wx) := fun wx => refShape_any bn _ hb1 hb2 (Nat.le_trans (uniq_le ks) hl) wx
  unfold buildL
  generalize pOf bn = p at *
  generalize mOf bn (uniq ks).length = m at *
  generalize (uniq ks).length = U at *
  obtain ⟨nk, hnk⟩ : ∃ nk, nk = ks.length := ⟨_, rfl⟩
  rw [← hnk] at hr hl HU ⊢
  have HR : Hid (RdP w (.slice a nk cap) ks) := hr
  have HN : Hid (nk = ks.length) := hnk
  clear hr hnk
  obtain ⟨hp1, hp2⟩ := hpo
  obtain ⟨hm1, hm2, hm8⟩ := hmo
  obtain ⟨i0, hi, hz0, hz1, hz2⟩ := info_parts info_bool
  have c1 : ¬ ((bn : Int) < 1) := by omega
  have c2 : ¬ ((20 : Int) < (bn : Int)) := by omega
  have c3 : ¬ ((1048576 : Int) < (nk : Int)) := by omega
  go_enter Try.func24, Try.ntmps24
  go_wp2_with (first | (go_at_call 42; refine Calls.mono HU.out ?_; rintro e1 w1 ⟨rfl, b1⟩) | (go_at_call 41; refine Calls.mono (HSh.out _) ?_; rintro e2 w2 ⟨rfl, rfl⟩) | (at_make; refine wpList_make_full _ rfl _ _ 75 rfl w.heap.size 4 i0 (.bool false) 1 und_bools hi hz0 hz1 .i64 .i64 _ _ m rfl rfl rfl rfl (by rw [hz2]; omega) (by unfold maxLen; omega) b1.size ?_; intro w3 own3 gr3))
  have b3 : Below w.heap.size w w3 := b1.trans ((Below.refl _ w2).grown gr3 b1.size (fun k hk => by cases hk))
  have hgw := b1.size
  generalize w2.heap.size = g at *
  have HO0 : Hid (w3.ownsRow w.heap.size 4 1 (.slice (some ⟨g, 0, none⟩) m m) m (rowB m (keyS (ks.take 0) p m)) ∧ Below w.heap.size w w3) := by
    have e : (madeCells (Value.bool false).cells (m * 1)).toList = rowB m (keyS (ks.take 0) p m) := by
      rw [show (Value.bool false).cells = #[.bool false] from rfl, toList_madeCells_one, Nat.mul_one]
      apply List.ext_getElem?
      intro i
      by_cases h : i < m
      · rw [rowB_get _ h]; simp [keyS, h]
      · rw [List.getElem?_eq_none (by simp; omega), List.getElem?_eq_none (by simp [rowB, bl]; omega)]
    rw [e] at own3
    exact ⟨own3, b3⟩
  clear own3 gr3 b1 b3 HU HSh
  go_loopw [9] (fun i wr => ∃ t : Nat, t ≤ nk ∧ i = .int .i64 (t : Int) ∧ Hid (wr.ownsRow w.heap.size 4 1 (.slice (some ⟨g, 0, none⟩) m m) m (rowB m (keyS (ks.take t) p m)) ∧ Below w.heap.size w wr)) (fun i _ => nk - (intOf i).toNat)
  case atStart => exact ⟨0, Nat.zero_le _, rfl, HO0⟩
  case round =>
    obtain ⟨t, ht, rfl, HI⟩ := hrel
    clear HO0
    by_cases hlt : t < nk
    · have hlt2 : (t : Int) < (nk : Int) := by omega
      obtain ⟨b, off, u, rfl, hcu, hru⟩ := rdp_at HR.out t hlt
      have hcw := (HI.out.2.cell (p := ⟨b, off + t, none⟩) (World.block_lt_of_cell? _ _ hcu)).trans hcu
      have HPl : Hid (Calls Try.prog 43 #[u, .int .i64 (p : Int), .int .i64 (m : Int)] wr fun e w' => ∃ a c, e = .returned (.slice a p c) ∧ w'.ownsRow wr.heap.size 3 1 (.slice a p c) p (iv (placesN (ks.getD t []) p m)) ∧ Below wr.heap.size wr w') := refPlaces_any (hru.later HI.out.2) p m hp2 (by omega) hm2
      clear hcu hru
      go_wp2_with (go_at_call 43; refine Calls.mono HPl.out ?_; rintro e5 w5 ⟨a5, c5, rfl, own5, b5⟩)
      rcases own5.2 with ⟨h1, h2⟩ | ⟨g2, cap2, cur2, h1, hg2, -, q1, q2, -, -⟩
      · omega
      cases h1
      have hgl := (HI.out.1.lt g rfl).2
      have hne : g ≠ g2 := by omega
      have HJ0 : Hid (w5.ownsRow w.heap.size 4 1 (.slice (some ⟨g, 0, none⟩) m m) m (rowB m (midS (keyS (ks.take t) p m) (placesN (ks.getD t []) p m) 0)) ∧ (∀ j, j < p → w5.cell? ⟨g2, j, none⟩ = some (.int .i64 ((placeN (ks.getD t []) m j : Nat) : Int))) ∧ Below w.heap.size w w5) := by
        refine ⟨?_, fun j hj => ?_, HI.out.2.trans (b5.mono HI.out.2.size)⟩
        · rw [midS_zero]; exact rowB_later HI.out.1 b5
        · rw [own5.cellAt j (by omega)]
          simp [iv, placesN, hj]
      clear own5 HI HPl
      go_loopw [11] (fun i wy => ∃ k : Nat, k ≤ p ∧ i = .int .i64 (k : Int) ∧ Hid (wy.ownsRow w.heap.size 4 1 (.slice (some ⟨g, 0, none⟩) m m) m (rowB m (midS (keyS (ks.take t) p m) (placesN (ks.getD t []) p m) k)) ∧ (∀ j, j < p → wy.cell? ⟨g2, j, none⟩ = some (.int .i64 ((placeN (ks.getD t []) m j : Nat) : Int))) ∧ Below w.heap.size w wy)) (fun i _ => p - (intOf i).toNat)
      case atStart => exact ⟨0, Nat.zero_le _, rfl, HJ0⟩
      case round =>
        obtain ⟨k, hk, rfl, HJ⟩ := hrel
        clear HJ0
        by_cases hkp : k < p
        · have hkpi : (k : Int) < (p : Int) := by omega
          have d1 := HJ.out.2.1 k hkp
          have hpl : placeN (ks.getD t []) m k < m := placeN_lt _ (by omega) k
          obtain ⟨z, hz⟩ : ∃ z, z = placeN (ks.getD t []) m k := ⟨_, rfl⟩
          rw [← hz] at d1 hpl
          have hzi : (z : Int) < (m : Int) := by omega
          have q3 := HJ.out.1.frozenAt z
          have q4 : wr.cell? ⟨g, z, none⟩ = some (.bool (midS (keyS (ks.take t) p m) (placesN (ks.getD t []) p m) k z)) := by
            rw [HJ.out.1.cellAt z (by omega), rowB_get _ hpl]
          have ST : Hid ((wr.setCell ⟨g, z, none⟩ (.bool true)).ownsRow w.heap.size 4 1 (.slice (some ⟨g, 0, none⟩) m m) m (rowB m (midS (keyS (ks.take t) p m) (placesN (ks.getD t []) p m) (k + 1))) ∧ (∀ j, j < p → (wr.setCell ⟨g, z, none⟩ (.bool true)).cell? ⟨g2, j, none⟩ = some (.int .i64 ((placeN (ks.getD t []) m j : Nat) : Int))) ∧ Below w.heap.size w (wr.setCell ⟨g, z, none⟩ (.bool true))) := by
            refine ⟨?_, fun j hj => ?_, HJ.out.2.2.setCell (p := ⟨g, z, none⟩) hgw _⟩
            · have e : z = (placesN (ks.getD t []) p m).getD k 0 := by rw [placesN_getD _ hkp, hz]
              rw [← rowB_mid _ _ (by rw [placesN_length]; exact hkp), ← e]
              exact (HJ.out.1.stored z _).1
            · have h3 := HJ.out.2.1 j hj
              unfold World.cell? at h3 ⊢
              rw [heap_setCell_other wr ⟨g, z, none⟩ g2 _ (fun e => hne e.symm)]
              exact h3
          clear hz
          go_wp2
          go_roundw
          case rel => exact ⟨k + 1, by omega, by go_num, ST⟩
          case measure => simp [intOf]; omega
        · have hke : k = p := by omega
          subst hke
          have HE : Hid (wr.ownsRow w.heap.size 4 1 (.slice (some ⟨g, 0, none⟩) m m) m (rowB m (keyS (ks.take (t + 1)) k m)) ∧ Below w.heap.size w wr) := by
            refine ⟨?_, HJ.out.2.2⟩
            have e : midS (keyS (ks.take t) k m) (placesN (ks.getD t []) k m) k = keyS (ks.take (t + 1)) k m := by
              rw [keyS_take ks (by rw [← HN.out]; exact hlt)]
              funext j
              unfold midS
              have e3 : (placesN (ks.getD t []) k m).take k = placesN (ks.getD t []) k m := List.take_of_length_le (by rw [placesN_length]; exact Nat.le_refl _)
              rw [e3]
            rw [← e]
            exact HJ.out.1
          go_wp2
          go_roundw
          case rel => exact ⟨t + 1, by omega, by go_num, HE⟩
          case measure => simp [intOf]; omega
    · have htn : t = nk := by omega
      subst htn
      have hcA : ∀ i, i < m → wr.cell? ⟨g, i, none⟩ = some (.bool (keyS ks p m i)) := fun i hi => by
        rw [HI.out.1.cellAt i (by omega), rowB_get _ hi, HN.out, List.take_length]
      have HLd : Hid (Calls Try.prog 44 #[.int .i64 (p : Int), .slice (some ⟨g, 0, none⟩) m m] wr fun e w' => ∃ a n c, e = .returned (.slice a n c) ∧ Own w' wr.heap.size (.slice a n c) n (filt p m (keyS ks p m)) ∧ Below wr.heap.size wr w') := refLaid_any hcA (Nat.le_refl _) hp2 hm1 hm2 hm8
      clear hcA
      go_wp2_with (go_at_call 44; refine Calls.mono HLd.out ?_; rintro e6 w6 ⟨a6, n6, c6, rfl, own6, b6⟩)
      have sz := HI.out.2.size
      refine bodyPost_ret (v := .tuple #[.slice a6 n6 c6, .int .i64 0]) ?_ rfl ⟨a6, n6, c6, rfl, own6.mono sz, HI.out.2.trans (b6.mono sz)⟩
      simp [results, Try.results24, go_sem]
end Go.Proofs.Ytieehdhinponcaa

namespace Go.Proofs.Ytieehdhinponcaa
open Go.RowKit
set_option linter.unusedVariables false

set_option maxRecDepth 100000 in
set_option maxHeartbeats 1000000 in
theorem refBuild_any {v : Value} {ks : List (List Nat)} {w : World} (b : Int) (hr : RdP w v ks) :
    Calls Try.prog 24 #[.int .i64 b, v] w fun e w' => ∃ a n c, e = .returned (.tuple #[.slice a n c, .int .i64 ((bldE b ks.length : Nat) : Int)]) ∧ Own w' w.heap.size (.slice a n c) n (bldL b ks) ∧ Below w.heap.size w w' := by
  have own0 : Own w w.heap.size (.slice none 0 0) 0 [] := ⟨rfl, World.ownsRow_nil _ _ _ _⟩
  obtain ⟨a, cap, rfl⟩ := own_rdp_len hr
  by_cases h1 : b < 1
  · have hE : bldE b ks.length = 60 := by unfold bldE; rw [if_pos (.inl h1)]
    have hL : bldL b ks = [] := by unfold bldL; rw [hE]; rfl
    rw [hE, hL]
    clear hE hL hr
    generalize ks.length = nk at *
    go_enter Try.func24, Try.ntmps24
    go_wp2
    refine bodyPost_ret (v := .tuple #[.slice none 0 0, .int .i64 60]) ?_ rfl ⟨none, 0, 0, rfl, own0, Below.refl _ _⟩
    simp [results, Try.results24, go_sem]
  · by_cases h2 : 20 < b
    · have hE : bldE b ks.length = 60 := by unfold bldE; rw [if_pos (.inr h2)]
      have hL : bldL b ks = [] := by unfold bldL; rw [hE]; rfl
      rw [hE, hL]
      clear hE hL hr
      generalize ks.length = nk at *
      go_enter Try.func24, Try.ntmps24
      go_wp2
      refine bodyPost_ret (v := .tuple #[.slice none 0 0, .int .i64 60]) ?_ rfl ⟨none, 0, 0, rfl, own0, Below.refl _ _⟩
      simp [results, Try.results24, go_sem]
    · by_cases h3 : 1048576 < ks.length
      · have hE : bldE b ks.length = 61 := by unfold bldE; rw [if_neg (by omega), if_pos h3]
        have hL : bldL b ks = [] := by unfold bldL; rw [hE]; rfl
        rw [hE, hL]
        clear hE hL hr
        generalize ks.length = nk at *
        have h3i : (1048576 : Int) < (nk : Int) := by omega
        go_enter Try.func24, Try.ntmps24
        go_wp2
        refine bodyPost_ret (v := .tuple #[.slice none 0 0, .int .i64 61]) ?_ rfl ⟨none, 0, 0, rfl, own0, Below.refl _ _⟩
        simp [results, Try.results24, go_sem]
      · have hE : bldE b ks.length = 0 := by unfold bldE; rw [if_neg (by omega), if_neg h3]
        have hL : bldL b ks = buildL b.toNat ks := by unfold bldL; rw [if_pos hE]
        rw [hE, hL]
        obtain ⟨bn, rfl⟩ : ∃ bn : Nat, b = (bn : Int) := ⟨b.toNat, by omega⟩
        exact refBuild_good bn (by omega) (by omega) hr (by omega)
end Go.Proofs.Ytieehdhinponcaa

namespace Go.Proofs.Ytieehdhinponcaa
open Go.RowKit
set_option linter.unusedVariables false

/-- Two rows lie in blocks of their own. -/
def Ap (u v : Value) : Prop := ∀ g, u.ownBlock = some g → v.ownBlock ≠ some g
theorem Ap.symm {u v : Value} (h : Ap u v) : Ap v u := fun g hv hu => h g hu hv
theorem row_apart {w : World} {B B' n n' : Nat} {e e' : TypeId} {v v' : Value} {xs xs' : List Value} (h : w.ownsRow B e 1 v n xs) (h' : w.ownsRow B' e' 1 v' n' xs') (hne : e ≠ e') : Ap v v' := by
  intro g hg hg'
  rcases h.2 with ⟨rfl, _⟩ | ⟨g1, cap, cur, rfl, _, hh, _⟩
  · simp [Value.ownBlock] at hg
  · rcases h'.2 with ⟨rfl, _⟩ | ⟨g2, cap2, cur2, rfl, _, hh2, _⟩
    · simp [Value.ownBlock] at hg'
    · simp only [Value.ownBlock, Option.some.injEq] at hg hg'
      subst hg hg'
      rw [hh] at hh2
      simp only [Option.some.injEq, Obj.cells.injEq] at hh2
      exact hne hh2.2.1
theorem row_kept {w w' : World} {B n : Nat} {e : TypeId} {v r : Value} {xs : List Value} (h : w.ownsRow B e 1 v n xs) (hg : w.grownBy w' r.ownBlock) (ha : Ap v r) : w'.ownsRow B e 1 v n xs :=
  h.kept hg (by
    cases hv : v.ownBlock with
    | none => exact .inl rfl
    | some g => exact .inr (fun e => ha g hv e.symm))
theorem Own.kept_row {w w' : World} {B B' n m : Nat} {e : TypeId} {v r : Value} {xs : List Nat} {vs : List Value} (h : Own w B v m xs) (hr : w.ownsRow B' e 1 r n vs) (hne : 5 ≠ e) (hg : w.grownBy w' r.ownBlock) : Own w' B v m xs :=
  ⟨h.1, row_kept h.2 hg (row_apart h.2 hr hne)⟩

/-- append(own, part): one slice of bytes, which was just laid into a block of its own. -/
theorem wpList_append_part {w : World} {ops : Array Oper} {rest : List Oper} {o : Oper} {a : Act} {Q : Exit → Act → World → Prop}
    (hgd : o.guard = none) (s x : Operand) (ho : o.op = .call { callee := .builtin .append, args := #[s, x], argTypes := #[22, 22] })
    (B : Nat) (a0 : Option Addr) (m0 c0 : Nat) (vs : List Value) (hs : a.eval s = .slice a0 m0 c0) (hown : w.ownsRow B 24 1 (.slice a0 m0 c0) m0 vs)
    (u : Value) (hu1 : u.oneCell' = true) (hx : a.eval x = .slice (some ⟨w.heap.size, 0, none⟩) 1 1) (hm : m0 + 1 ≤ 5864062014805) (hB : B ≤ w.heap.size)
    (h : ∀ a' c' w', w'.ownsRow B 24 1 (.slice a' (m0 + 1) c') (m0 + 1) (vs ++ [u]) → w.grownBy w' (Value.slice a0 m0 c0).ownBlock → (∀ g, (Value.slice a' (m0 + 1) c').ownBlock = some g → (Value.slice a0 m0 c0).ownBlock = some g ∨ w.heap.size < g) → wpList Try.prog ops Q rest (a.put o.dst (.slice a' (m0 + 1) c')) w') : wpList Try.prog ops Q (o :: rest) a (w.alloc (.cells #[u] 24)) := by
  obtain ⟨i0, hi, hz0, hz1, hz2⟩ := info_parts info_bytes
  refine wpList_append_own_at _ hgd s x 22 ho B 24 i0 (.slice none 0 0) 1 24 und_parts hi hz0 hz1 hz2 rfl (by decide) _ m0 vs hs (hown.alloc _) ⟨w.heap.size, 0, none⟩ 1 1 [u] hx rfl (cell_one_new _ _ _) (fun v hv => by simp at hv; subst hv; exact hu1) (by unfold maxLen; omega) (by omega) (by simp; omega) ?_
  intro v' w' h1 h2 _ h4
  obtain ⟨a', c', rfl⟩ := row_form h1
  refine h a' c' w' h1 ((World.grownBy_alloc w _ _).trans h2) (fun g hg => ?_)
  rcases h4 with h4 | h4
  · exact .inl (h4 ▸ hg)
  · rw [h4] at hg
    simp at hg
    omega

/-- What stands while the keys are laid out: the wide lists, and what is cut out of them. -/
structure BdS (w wr : World) (ks : List (List Nat)) (t nu ni : Nat) (vw vi : Value) (us is : List Value) : Prop where
  bel : Below w.heap.size w wr
  rw_ : wr.ownsRow w.heap.size 24 1 vw nu us
  ri : wr.ownsRow w.heap.size 24 1 vi ni is
  ap : Ap vw vi
  hu : t ≤ us.length
  hi : t ≤ is.length
  el : ∀ j, j < t → ∃ g c, us[j]? = some (.slice (some ⟨g, 0, none⟩) ((ks.getD j []).length + 5) c) ∧ is[j]? = some (.slice (some ⟨g, 0, none⟩) (ks.getD j []).length c) ∧ Own wr w.heap.size (.slice (some ⟨g, 0, none⟩) ((ks.getD j []).length + 5) c) ((ks.getD j []).length + 5) (ks.getD j [] ++ marksL)

theorem BdS.nil (w wr : World) (ks : List (List Nat)) (hb : Below w.heap.size w wr) : BdS w wr ks 0 0 0 (.slice none 0 0) (.slice none 0 0) [] [] :=
  ⟨hb, World.ownsRow_nil _ _ _ _, World.ownsRow_nil _ _ _ _, fun g h => by simp [Value.ownBlock] at h, Nat.le_refl _, Nat.le_refl _, fun j hj => by omega⟩
theorem BdS.later {w wr wx : World} {ks : List (List Nat)} {t nu ni : Nat} {vw vi : Value} {us is : List Value} (h : BdS w wr ks t nu ni vw vi us is) (hb : Below wr.heap.size wr wx) : BdS w wx ks t nu ni vw vi us is :=
  ⟨h.bel.trans (hb.mono h.bel.size), rowB_later h.rw_ hb, rowB_later h.ri hb, h.ap, h.hu, h.hi, fun j hj => let ⟨g, c, h1, h2, h3⟩ := h.el j hj; ⟨g, c, h1, h2, h3.later hb⟩⟩
theorem ap_new {w : World} {B n : Nat} {e : TypeId} {v u u' : Value} {xs : List Value} (h : w.ownsRow B e 1 v n xs) (ha : Ap u v) (hl : ∀ g, u'.ownBlock = some g → u.ownBlock = some g ∨ w.heap.size < g) : Ap u' v := fun g hg hv => by
  rcases hl g hg with h1 | h1
  · exact ha g h1 hv
  · have := (h.lt g hv).2
    omega
theorem BdS.growW {w wr wx : World} {ks : List (List Nat)} {t nu ni nu' : Nat} {vw vi vw' u : Value} {us is : List Value} (h : BdS w wr ks t nu ni vw vi us is)
    (hg : wr.grownBy wx vw.ownBlock) (hr : wx.ownsRow w.heap.size 24 1 vw' nu' (us ++ [u])) (hl : ∀ g, vw'.ownBlock = some g → vw.ownBlock = some g ∨ wr.heap.size < g) : BdS w wx ks t nu' ni vw' vi (us ++ [u]) is :=
  ⟨h.bel.grown hg h.bel.size (fun k hk => (h.rw_.lt k hk).1), hr, row_kept h.ri hg h.ap.symm, ap_new h.ri h.ap hl, by have := h.hu; simp; omega, h.hi, fun j hj => by
    obtain ⟨g, c, h1, h2, h3⟩ := h.el j hj
    exact ⟨g, c, by rw [List.getElem?_append_left (by have := h.hu; omega)]; exact h1, h2, h3.kept_row h.rw_ (by decide) hg⟩⟩
theorem BdS.growI {w wr wx : World} {ks : List (List Nat)} {t nu ni ni' : Nat} {vw vi vi' u : Value} {us is : List Value} (h : BdS w wr ks t nu ni vw vi us is)
    (hg : wr.grownBy wx vi.ownBlock) (hr : wx.ownsRow w.heap.size 24 1 vi' ni' (is ++ [u])) (hl : ∀ g, vi'.ownBlock = some g → vi.ownBlock = some g ∨ wr.heap.size < g) : BdS w wx ks t nu ni' vw vi' us (is ++ [u]) :=
  ⟨h.bel.grown hg h.bel.size (fun k hk => (h.ri.lt k hk).1), row_kept h.rw_ hg h.ap, hr, (ap_new h.rw_ h.ap.symm hl).symm, h.hu, by have := h.hi; simp; omega, fun j hj => by
    obtain ⟨g, c, h1, h2, h3⟩ := h.el j hj
    exact ⟨g, c, h1, by rw [List.getElem?_append_left (by have := h.hi; omega)]; exact h2, h3.kept_row h.ri (by decide) hg⟩⟩
theorem BdS.more {w wr : World} {ks : List (List Nat)} {t nu ni g c : Nat} {vw vi : Value} {us is : List Value} (h : BdS w wr ks t nu ni vw vi us is)
    (h1 : us[t]? = some (.slice (some ⟨g, 0, none⟩) ((ks.getD t []).length + 5) c)) (h2 : is[t]? = some (.slice (some ⟨g, 0, none⟩) (ks.getD t []).length c)) (h3 : Own wr w.heap.size (.slice (some ⟨g, 0, none⟩) ((ks.getD t []).length + 5) c) ((ks.getD t []).length + 5) (ks.getD t [] ++ marksL)) : BdS w wr ks (t + 1) nu ni vw vi us is :=
  ⟨h.bel, h.rw_, h.ri, h.ap, (List.getElem?_eq_some_iff.1 h1).1, (List.getElem?_eq_some_iff.1 h2).1, fun j hj => by
    by_cases e : j < t
    · exact h.el j e
    · have e2 : j = t := by omega
      subst e2
      exact ⟨g, c, h1, h2, h3⟩⟩
theorem BdS.cellW {w wr : World} {ks : List (List Nat)} {t nu ni j c : Nat} {a : Option Addr} {vi u : Value} {us is : List Value} (h : BdS w wr ks t nu ni (.slice a nu c) vi us is) (hj : us[j]? = some u) : ∃ g, a = some ⟨g, 0, none⟩ ∧ wr.cell? ⟨g, j, none⟩ = some u ∧ j < nu := by
  have hl : us.length = nu := by have := h.rw_.1; simpa using this
  have hj2 : j < nu := by rw [← hl]; exact (List.getElem?_eq_some_iff.1 hj).1
  rcases h.rw_.2 with ⟨h1, h2⟩ | ⟨g, cap, cur, h3, h4⟩
  · omega
  · simp only [Value.slice.injEq] at h3
    obtain ⟨rfl, _, _⟩ := h3
    refine ⟨g, rfl, ?_, hj2⟩
    rw [h.rw_.cellAt j (by omega)]
    exact hj
theorem BdS.cellI {w wr : World} {ks : List (List Nat)} {t nu ni j c : Nat} {a : Option Addr} {vw u : Value} {us is : List Value} (h : BdS w wr ks t nu ni vw (.slice a ni c) us is) (hj : is[j]? = some u) : ∃ g, a = some ⟨g, 0, none⟩ ∧ wr.cell? ⟨g, j, none⟩ = some u ∧ j < ni := by
  have hl : is.length = ni := by have := h.ri.1; simpa using this
  have hj2 : j < ni := by rw [← hl]; exact (List.getElem?_eq_some_iff.1 hj).1
  rcases h.ri.2 with ⟨h1, h2⟩ | ⟨g, cap, cur, h3, h4⟩
  · omega
  · simp only [Value.slice.injEq] at h3
    obtain ⟨rfl, _, _⟩ := h3
    refine ⟨g, rfl, ?_, hj2⟩
    rw [h.ri.cellAt j (by omega)]
    exact hj
theorem BdS.rd {w wr : World} {ks : List (List Nat)} {t nu ni j : Nat} {vw vi : Value} {us is : List Value} (h : BdS w wr ks t nu ni vw vi us is) (hb : ∀ k ∈ ks, Bys k) (hl : ∀ i, (ks.getD i []).length ≤ 140737488351232) (hj : j < t) (ht : t ≤ ks.length) :
    ∃ g c, us[j]? = some (.slice (some ⟨g, 0, none⟩) ((ks.getD j []).length + 5) c) ∧ is[j]? = some (.slice (some ⟨g, 0, none⟩) (ks.getD j []).length c) ∧ Rd wr (.slice (some ⟨g, 0, none⟩) ((ks.getD j []).length + 5) c) (ks.getD j [] ++ marksL) ∧ Rd wr (.slice (some ⟨g, 0, none⟩) (ks.getD j []).length c) (ks.getD j []) := by
  obtain ⟨g, c, h1, h2, h3⟩ := h.el j hj
  have hby : Bys (ks.getD j [] ++ marksL) := by
    intro x hx
    rcases List.mem_append.1 hx with h | h
    · refine hb _ ?_ x h
      rw [List.getD_eq_getElem?_getD, List.getElem?_eq_getElem (by omega : j < ks.length)]
      exact List.getElem_mem _
    · exact marks_bys x h
  have r := h3.rd hby (by have := hl j; omega)
  refine ⟨g, c, h1, h2, r, ?_⟩
  have := r.upto (ks.getD j []).length (by omega)
  rwa [show (ks.getD j [] ++ marksL).take (ks.getD j []).length = ks.getD j [] by simp] at this
/-- What is cut out of the row reads as the keys. -/
theorem BdS.rdp {w wr : World} {ks : List (List Nat)} {ni nu g c : Nat} {vw : Value} {us is : List Value} (h : BdS w wr ks ks.length nu ni vw (.slice (some ⟨g, 0, none⟩) ni c) us is) (hb : ∀ k ∈ ks, Bys k) (hl : ∀ i, (ks.getD i []).length ≤ 140737488351232) (hn : ks.length ≤ 281474976710656) : RdP wr (.slice (some ⟨g, 0, none⟩) ks.length c) ks := by
  refine ⟨hn, some ⟨g, 0, none⟩, c, rfl, .inr ⟨g, 0, rfl, fun i hi => ?_⟩⟩
  obtain ⟨g1, c1, _, h2, _, r⟩ := h.rd hb hl hi (Nat.le_refl _)
  obtain ⟨g2, e, hc, _⟩ := h.cellI h2
  cases e
  exact ⟨_, by simpa using hc, r⟩
theorem bldL_bys (b : Int) (ks : List (List Nat)) : Bys (bldL b ks) := by
  unfold bldL
  split
  · rename_i h
    unfold bldE at h
    by_cases h1 : b < 1 ∨ 20 < b
    · rw [if_pos h1] at h; cases h
    · rw [if_neg h1] at h
      by_cases h2 : 1048576 < ks.length
      · rw [if_pos h2] at h; cases h
      · exact build_bys (by omega) (by omega)
  · intro x hx; simp at hx
theorem bldL_len (b : Int) (ks : List (List Nat)) : (bldL b ks).length ≤ 3000000 := by
  unfold bldL
  split
  · rename_i h
    unfold bldE at h
    by_cases h1 : b < 1 ∨ 20 < b
    · rw [if_pos h1] at h; cases h
    · rw [if_neg h1] at h
      by_cases h2 : 1048576 < ks.length
      · rw [if_pos h2] at h; cases h
      · exact (build_len (by omega) (by omega)).1
  · simp

theorem wide_own {a0 : Option Addr} {n0 c0 : Nat} {L : List Nat} {w : World} (hr : Rd w (.slice a0 n0 c0) L) (hl : n0 ≤ 140737488351232) :
    Calls Try.prog 23 #[.slice a0 n0 c0] w fun e w' => ∃ g c, e = .returned (.slice (some ⟨g, 0, none⟩) (n0 + 5) c) ∧ Own w' w.heap.size (.slice (some ⟨g, 0, none⟩) (n0 + 5) c) (n0 + 5) (L ++ marksL) ∧ n0 + 5 ≤ c ∧ c ≤ maxLen ∧ Below w.heap.size w w' := by
  obtain ⟨hn, hle0, hc0, hl0⟩ := rd_lens hr
  refine (wide_any hr (by omega)).mono ?_
  rintro e w' ⟨a, m, c, rfl, own, b⟩
  have hm : m = n0 + 5 := by rw [own.1, hn]; simp [marksL]
  subst hm
  rcases own.2.2 with ⟨h1, h2⟩ | ⟨g, cap, cur, h1, _, _, h5, h6, _⟩
  · omega
  · cases h1
    exact ⟨g, c, rfl, own, h5, h6, b⟩
end Go.Proofs.Ytieehdhinponcaa
