import Derived.Test.YtledfniedoapiaaDoorJ10
import Derived.Lib.Hide
import Derived.Deep.RegionHeld3
namespace Go.Proofs.YtledfniedoapiaaDoor
open Go.RowKit
set_option linter.unusedVariables false

theorem Pend.push0 {w w' : World} {B : Nat} {vs : List (Value × List Nat)} {v : Value} {xs : List Nat} (h : Pend w B [] vs) (hb : Below w.heap.size w w') (ho : Own w' w.heap.size v xs.length xs) (hB : B ≤ w.heap.size) (hby : Bys xs) (hl : xs.length ≤ 4194304) : Pend w' B [] (vs ++ [(v, xs)]) := by
  have hv : ∀ x, v.ownBlock = some x → w.heap.size ≤ x := fun x hx => (ho.2.lt x hx).1
  refine ⟨fun p hp => ?_, ?_, fun p hp q hq => by cases hq⟩
  · rcases List.mem_append.1 hp with hp | hp
    · exact (h.later hb).own p hp
    · simp at hp
      subst hp
      exact ⟨ho.mono hB, hby, hl⟩
  · rw [List.map_append, List.pairwise_append]
    refine ⟨h.ap, by simp, fun u hu y hy => ?_⟩
    simp at hy
    subst hy
    obtain ⟨p, hp, rfl⟩ := List.mem_map.1 hu
    exact fun x hx hy => by have := ((h.own p hp).1.2.lt x hx).2; have := hv x hy; omega
theorem Pend.perm {w : World} {B : Nat} {its : List Item} {vs vs' : List (Value × List Nat)} (h : Pend w B its vs) (k : vs.Perm vs') : Pend w B its vs' :=
  ⟨fun p hp => h.own p (k.mem_iff.2 hp), (List.Perm.pairwise_iff (fun {x y} (a : AP x y) => a.symm) (k.map Prod.fst)).1 h.ap, fun p hp => h.hap p (k.mem_iff.2 hp)⟩
theorem perm6 {α : Type} (a b c d e f : α) : [a, b, c, d, e, f].Perm [c, a, b, d, e, f] := by
  have h1 : [a, b, c, d, e, f].Perm [a, c, b, d, e, f] := .cons _ (.swap _ _ _)
  exact h1.trans (.swap _ _ _)
/-- What 'written' hands out: six values, each of which owns its bytes, all apart. -/
def SixO (w : World) (B g : Nat) (v : Nat) (bs : List Nat) : Prop :=
  ∃ u0 u1 u2 u3 u4 u5 : Value, (∀ j x, [u0, .int .i64 2, u1, .int .i64 6, u2, .int .i64 8, u3, .int .i64 4, u4, .int .i64 10, u5, .int .i64 13][j]? = some x → w.cell? ⟨g, j, none⟩ = some x) ∧
    u0.oneCell' = true ∧ u1.oneCell' = true ∧ u2.oneCell' = true ∧ u3.oneCell' = true ∧ u4.oneCell' = true ∧ u5.oneCell' = true ∧
    Pend w B [] [(u0, uintL v), (u1, be8 (v / 2)), (u2, be8 (9223372036854775807 - v / 2)), (u3, bytesL bs), (u4, ordL bs), (u5, frameL bs)]

set_option maxRecDepth 100000 in
set_option maxHeartbeats 2000000 in
theorem written_own (v : Nat) (hv : v < 18446744073709551616) {vb : Value} {bs : List Nat} {w : World} (hb : Rd w vb bs) (ht : Tab w) (hl : bs.length ≤ 1048576) :
    Calls Tryd.prog 21 #[.int .u64 (v : Int), vb] w fun e w' => ∃ g c, e = .returned (.slice (some ⟨g, 0, none⟩) 6 c) ∧ SixO w' w.heap.size g v bs ∧ Below w.heap.size w w' := by
  obtain ⟨i0, hi, hz0, hz1, hz2⟩ := info_parts info_w
  obtain ⟨a, n, cap, rfl⟩ := rd_slice hb
  obtain ⟨hn, _, _, _⟩ := rd_lens hb
  rw [← hn] at hl
  have HN : Hid (n = bs.length) := hn
  clear hn
  have hbys := hb.1
  obtain ⟨LR, hLR⟩ : ∃ L, be8 (v / 2) = L := ⟨_, rfl⟩
  obtain ⟨LF, hLF⟩ : ∃ L, be8 (9223372036854775807 - v / 2) = L := ⟨_, rfl⟩
  have HLR : Hid (be8 (v / 2) = LR) := hLR
  have HLF : Hid (be8 (9223372036854775807 - v / 2) = LF) := hLF
  have HV2 : Hid (v / 2 < 9223372036854775808) := by unfold Hid; omega
  have HLRB : Hid (Bys LR ∧ LR.length = 8) := by unfold Hid; rw [← hLR]; exact ⟨be8_bys _, rfl⟩
  have HLFB : Hid (Bys LF ∧ LF.length = 8) := by unfold Hid; rw [← hLF]; exact ⟨be8_bys _, rfl⟩
  clear hLR hLF
  have HDIV : Hid (((v : Int) / 2) = ((v / 2 : Nat) : Int)) := by unfold Hid; omega
  have HORD : Hid ((ordL bs).length ≤ 4194304) := by
    unfold Hid
    have h1 := ordL_len bs
    have h2 : bs.count 0 ≤ bs.length := List.count_le_length
    have := HN.out
    omega
  have hln : (n : Int) ≤ 1048576 := by omega
  go_enter Tryd.func21, Tryd.ntmps21
  go_wp2_with fail
  refine (rising_atL _ (v / 2) HDIV.out HV2.out _ HLR.out).mono ?_
  rintro e w1 ⟨a1, m1, c1, rfl, own1, hb1⟩
  have hs1 := hb1.size
  have P1 : Pend w1 w.heap.size [] [(.slice a1 m1 c1, LR)] := (Pend.nil w w.heap.size []).push0 hb1 (own_len own1) (Nat.le_refl _) HLRB.out.1 (by rw [HLRB.out.2]; omega)
  clear own1
  go_wp2_with fail
  refine (falling_atL _ (v / 2) HDIV.out HV2.out _ HLF.out).mono ?_
  rintro e w2 ⟨a2, m2, c2, rfl, own2, hb2⟩
  have P2 : Pend w2 w.heap.size [] [(.slice a1 m1 c1, LR), (.slice a2 m2 c2, LF)] := P1.push0 hb2 (own_len own2) hs1 HLFB.out.1 (by rw [HLFB.out.2]; omega)
  clear P1
  have hb2' := hb1.trans (hb2.mono hs1)
  have hs2 := hb2'.size
  clear own2 hb2 hb1 hs1
  go_wp2_with fail
  refine (uint_at _ v rfl hv _ rfl).mono ?_
  rintro e w3 ⟨a3, m3, c3, rfl, own3, hb3⟩
  have P3 : Pend w3 w.heap.size [] [(.slice a1 m1 c1, LR), (.slice a2 m2 c2, LF), (.slice a3 m3 c3, uintL v)] := P2.push0 hb3 (own_len own3) hs2 (uintL_bys v hv) (by have := (uintL_len v).2; omega)
  clear P2
  have hb3' := hb2'.trans (hb3.mono hs2)
  have hs3 := hb3'.size
  clear own3 hb3 hb2' hs2
  go_wp2_with fail
  refine (bytes_any (hb.later hb3') (by rw [← HN.out]; omega)).mono ?_
  rintro e w4 ⟨a4, m4, c4, rfl, own4, hb4⟩
  have hm4 : m4 ≤ 2097152 := by
    have h1 := own4.1
    have h2 := uintL_len bs.length
    unfold bytesL at h1
    rw [List.length_append, ← HN.out] at h1
    rw [← HN.out] at h2
    omega
  have P4 : Pend w4 w.heap.size [] [(.slice a1 m1 c1, LR), (.slice a2 m2 c2, LF), (.slice a3 m3 c3, uintL v), (.slice a4 m4 c4, bytesL bs)] := P3.push0 hb4 (own_len own4) hs3 ((uintL_bys _ (by rw [← HN.out]; omega)).app hbys) (by have h1 := own4.1; unfold bytesL at h1 ⊢; omega)
  clear P3
  have hb4' := hb3'.trans (hb4.mono hs3)
  have hs4 := hb4'.size
  clear own4 hb4 hb3' hs3
  go_wp2_with fail
  refine (ordered_any (hb.later hb4') (by have := HORD.out; omega)).mono ?_
  rintro e w5 ⟨a5, m5, c5, rfl, own5, hb5⟩
  have P5 := Lib.hid (show Pend w5 w.heap.size [] [(.slice a1 m1 c1, LR), (.slice a2 m2 c2, LF), (.slice a3 m3 c3, uintL v), (.slice a4 m4 c4, bytesL bs), (.slice a5 m5 c5, ordL bs)] from P4.push0 hb5 (own_len own5) hs4 (ordL_bys bs hbys) HORD.out)
  clear P4
  have hb5' := hb4'.trans (hb5.mono hs4)
  have hs5 := hb5'.size
  clear own5 hb5 hb4' hs4
  go_wp2_with fail
  have A6 := (Below.refl w5.heap.size w5).alloc (Nat.le_refl _) (.cells #[.slice a3 m3 c3, .int .i64 2, .slice a1 m1 c1, .int .i64 6, .slice a2 m2 c2, .int .i64 8, .slice a4 m4 c4, .int .i64 4, .slice a5 m5 c5, .int .i64 10] 51)
  have hown : (w5.alloc (.cells #[.slice a3 m3 c3, .int .i64 2, .slice a1 m1 c1, .int .i64 6, .slice a2 m2 c2, .int .i64 8, .slice a4 m4 c4, .int .i64 4, .slice a5 m5 c5, .int .i64 10] 51)).ownsRow w.heap.size 51 2 (.slice (some ⟨w5.heap.size, 0, none⟩) 5 5) 5 [.slice a3 m3 c3, .int .i64 2, .slice a1 m1 c1, .int .i64 6, .slice a2 m2 c2, .int .i64 8, .slice a4 m4 c4, .int .i64 4, .slice a5 m5 c5, .int .i64 10] :=
    ⟨rfl, .inr ⟨w5.heap.size, 5, _, rfl, hs5, heap_alloc_new w5 _, Nat.le_refl _, by unfold maxLen; omega, rfl, rfl⟩⟩
  have hb6 := hb5'.trans (A6.mono hs5)
  refine (frame_ok (hb.later hb6) (ht.later hb6) (by rw [← HN.out]; exact hl)).mono ?_
  rintro e w6 ⟨a6, m6, c6, rfl, own6, hb6f⟩
  have hown6 := owns_later hown hb6f
  have B5 := A6.trans (hb6f.mono A6.size)
  have hb7 := hb6.trans (hb6f.mono hb6.size)
  have hs7 := hb7.size
  have hs6 := hb6f.size
  have hm6 : m6 ≤ 2097152 := by rw [own6.1]; simp [frameL, be4, le4]; rw [← HN.out]; omega
  clear hb6f hb6 hown A6
  go_wp2_with (at_builtin; refine wpList_append_own _ rfl _ _ 48 rfl w.heap.size 51 i0 (.agg #[.slice none 0 0, .int .i64 0]) 2 32 und_ws hi hz0 hz1 hz2 rfl (by decide) _ 5 _ rfl (hown6.alloc _) ⟨w6.heap.size, 0, none⟩ 1 1 [.slice a6 m6 c6, .int .i64 13] rfl rfl (news_new _ _ _) ?c2 ?c3 ?c4 ?c5 ?_)
  case c2 => intro u hu; simp at hu; rcases hu with rfl | rfl <;> rfl
  case c3 => unfold maxLen; omega
  case c4 => omega
  case c5 => simp; omega
  intro v' w8 hown8 hgrow _
  have hsz : w5.heap.size + 1 ≤ w6.heap.size := by simpa using hs6
  have B8 : Below w5.heap.size w5 w8 := (B5.alloc B5.size _).grown hgrow (by simp; omega) (fun k hk => by simp [Value.ownBlock] at hk; omega)
  have hb8 := hb5'.trans (B8.mono hs5)
  have o6 := (own6.2.alloc (.cells #[.slice a6 m6 c6, .int .i64 13] 51)).kept hgrow (by
    by_cases hnb : (Value.slice a6 m6 c6).ownBlock = none
    · exact .inl hnb
    · right
      intro he
      have h1 := own6.2.lt w5.heap.size (by rw [he]; rfl)
      have h2 := h1.1
      simp at h2
      omega)
  have own8 : Own w8 (w5.heap.size + 1) (.slice a6 m6 c6) m6 (frameL bs) := ⟨own6.1, by simpa using o6⟩
  have P6 : Pend w8 w.heap.size [] [(.slice a1 m1 c1, LR), (.slice a2 m2 c2, LF), (.slice a3 m3 c3, uintL v), (.slice a4 m4 c4, bytesL bs), (.slice a5 m5 c5, ordL bs), (.slice a6 m6 c6, frameL bs)] := P5.out.push0 B8 (own_len (own8.mono (by omega))) hs5 (frameL_bys bs hbys (by rw [← HN.out]; exact hl)) (by have := own8.1; omega)
  obtain ⟨g8, c8, hv8⟩ : ∃ g c, v' = .slice (some ⟨g, 0, none⟩) 6 c := by
    rcases hown8.2 with ⟨_, h⟩ | ⟨g, c, cur, h, _⟩
    · omega
    · exact ⟨g, c, h⟩
  rw [hv8] at hown8 ⊢
  have hsix : SixO w8 w.heap.size g8 v bs := by
    refine ⟨.slice a3 m3 c3, .slice a1 m1 c1, .slice a2 m2 c2, .slice a4 m4 c4, .slice a5 m5 c5, .slice a6 m6 c6, fun j x hj => ?_, rfl, rfl, rfl, rfl, rfl, rfl, P6.perm ?_⟩
    rotate_left
    · rw [HLR.out, HLF.out]
      exact perm6 _ _ _ _ _ _
    have hjl : j < 12 := by
      have := (List.getElem?_eq_some_iff.1 hj).1
      simpa using this
    rw [hown8.cellAt j (by omega)]
    exact hj
  have HSIX : Hid (SixO w8 w.heap.size g8 v bs) := hsix
  clear hown8 hgrow own6 own8 o6 P6 P5 B5 B8 hown6 hsix
  go_wp2
  go_ret
  exact ⟨g8, c8, rfl, HSIX.out, hb8⟩


end Go.Proofs.YtledfniedoapiaaDoor

namespace Go.Proofs.YtledfniedoapiaaDoor
open Go.RowKit
set_option linter.unusedVariables false

theorem readBytes_o {v : Value} {bs : List Nat} {w : World} (hr : Rd w v bs) (z most : Int) (hm : most ≤ 9223372036854775807) (h47 : bs.length ≤ 140737488355328) {L : List Nat} {P E : Nat} (h : bytesZ bs z most = (L, P, E)) :
    Calls Tryd.prog 22 #[v, .int .i64 z, .int .i64 most] w fun e w' => ∃ a m c, e = .returned (.tuple #[.slice a m c, .int .i64 (P : Int), .int .i64 (E : Int)]) ∧ Own w' w.heap.size (.slice a m c) m L ∧ Below w.heap.size w w' := by
  by_cases h0 : z < 0 ∨ (bs.length : Int) < z ∨ most < 0
  · rw [bytesZ, if_pos h0] at h
    cases h
    refine (readBytes_out hr z most h0).mono ?_
    rintro e w' ⟨rfl, rfl⟩
    exact ⟨none, 0, 0, rfl, own_nil _ _, Below.refl _ _⟩
  · rw [bytesZ, if_neg h0] at h
    obtain ⟨k, rfl⟩ : ∃ k : Nat, z = (k : Int) := ⟨z.toNat, by omega⟩
    obtain ⟨q, rfl⟩ : ∃ q : Nat, most = (q : Int) := ⟨most.toNat, by omega⟩
    rw [Int.toNat_natCast, Int.toNat_natCast] at h
    refine (readBytes_in hr k q (by omega) (by omega) (by omega)).mono ?_
    rintro e w' ⟨a, m, c, rfl, own, hb⟩
    rw [h] at own ⊢
    exact ⟨a, m, c, rfl, own, hb⟩
theorem readOrdered_o {v : Value} {bs : List Nat} {w : World} (hr : Rd w v bs) (z : Int) (h47 : bs.length ≤ 140737488355328) {L : List Nat} {P E : Nat} (h : ordZ bs z = (L, P, E)) :
    Calls Tryd.prog 23 #[v, .int .i64 z] w fun e w' => ∃ a m c, e = .returned (.tuple #[.slice a m c, .int .i64 (P : Int), .int .i64 (E : Int)]) ∧ Own w' w.heap.size (.slice a m c) m L ∧ Below w.heap.size w w' := by
  rcases place bs z with h0 | ⟨k, rfl, hk, h0⟩
  · rw [ordZ, if_pos h0] at h
    cases h
    refine (readOrdered_out hr z h0).mono ?_
    rintro e w' ⟨rfl, rfl⟩
    exact ⟨none, 0, 0, rfl, own_nil _ _, Below.refl _ _⟩
  · rw [ordZ, if_neg h0, Int.toNat_natCast] at h
    refine (readOrdered_in hr k hk (by omega)).mono ?_
    rintro e w' ⟨a, m, c, rfl, own, hb⟩
    rw [h] at own ⊢
    exact ⟨a, m, c, rfl, own, hb⟩
theorem readFrame_o {v : Value} {bs : List Nat} {w : World} (hr : Rd w v bs) (ht : Tab w) (z : Int) (h47 : bs.length ≤ 140737488355000) {L : List Nat} {P E : Nat} (h : frameZ bs z = (L, P, E)) :
    Calls Tryd.prog 24 #[v, .int .i64 z] w fun e w' => ∃ a m c, e = .returned (.tuple #[.slice a m c, .int .i64 (P : Int), .int .i64 (E : Int)]) ∧ Own w' w.heap.size (.slice a m c) m L ∧ Below w.heap.size w w' := by
  rcases place bs z with h0 | ⟨k, rfl, hk, h0⟩
  · rw [frameZ, if_pos h0] at h
    cases h
    refine (readFrame_out hr z h0).mono ?_
    rintro e w' ⟨rfl, rfl⟩
    exact ⟨none, 0, 0, rfl, own_nil _ _, Below.refl _ _⟩
  · rw [frameZ, if_neg h0, Int.toNat_natCast] at h
    refine (readFrame_in hr ht k hk (by omega)).mono ?_
    rintro e w' ⟨a, m, c, rfl, own, hb⟩
    rw [h] at own ⊢
    exact ⟨a, m, c, rfl, own, hb⟩
theorem zok {bs : List Nat} (hb : Bys bs) (z most : Int) : (Bys (bytesZ bs z most).1 ∧ (bytesZ bs z most).1.length ≤ bs.length) ∧ (Bys (ordZ bs z).1 ∧ (ordZ bs z).1.length ≤ bs.length) ∧ (Bys (frameZ bs z).1 ∧ (frameZ bs z).1.length ≤ bs.length) := by
  have hn : Bys ([] : List Nat) ∧ ([] : List Nat).length ≤ bs.length := ⟨fun x hx => by simp at hx, by simp⟩
  refine ⟨?_, ?_, ?_⟩
  · unfold bytesZ
    split
    · exact hn
    · exact bytesR_ok bs _ _ hb
  · unfold ordZ
    split
    · exact hn
    · exact ordR_ok bs _ hb
  · unfold frameZ
    split
    · exact hn
    · exact frameR_ok bs _ hb
theorem RowS.mono {w : World} {B B' n : Nat} {v : Value} {vs : List Value} (h : RowS w B v n vs) (hB : B' ≤ B) : RowS w B' v n vs := by
  refine ⟨h.1, h.2.1, h.2.2.1, ?_⟩
  rcases h.2.2.2 with h2 | ⟨g, cap, cur, h3, h4, h5, h6⟩
  · exact .inl h2
  · exact .inr ⟨g, cap, cur, h3, Nat.le_trans hB h4, h5, h6⟩
theorem Pend.far {w w' : World} {B : Nat} {its : List Item} {vs : List (Value × List Nat)} {o : Option Nat} (h : Pend w B its vs) (k : w.grownBy w' o) (hne : ∀ p ∈ vs, ∀ x, o = some x → p.1.ownBlock ≠ some x) : Pend w' B its vs :=
  ⟨fun p hp => ⟨(h.own p hp).1.far k (hne p hp), (h.own p hp).2⟩, h.ap, h.hap⟩
/-- What the calls hand out, of a number, of bytes, of what stands in all at a place. -/
def ansL (v : Nat) (bs all : List Nat) (z : Int) : List (List Nat) := [uintL v, be8 (v / 2), be8 (9223372036854775807 - v / 2), bytesL bs, ordL bs, frameL bs, (bytesZ all z (all.length : Int)).1, (ordZ all z).1, (frameZ all z).1]
/-- A row of byte strings, each of which owns its bytes, all apart. -/
def Nine (w : World) (B : Nat) (v : Value) (L : List (List Nat)) : Prop := ∃ a c us, v = .slice a L.length c ∧ RowS w B (.slice a L.length c) L.length us ∧ Pend w B [] (us.zip L)
theorem Nine.later {w w' : World} {B : Nat} {v : Value} {L : List (List Nat)} (h : Nine w B v L) (hb : Below w.heap.size w w') : Nine w' B v L := by
  obtain ⟨a, c, us, h1, h2, h3⟩ := h
  exact ⟨a, c, us, h1, h2.later hb, h3.later hb⟩
theorem Nine.rdp {w : World} {B : Nat} {v : Value} {L : List (List Nat)} (h : Nine w B v L) (hl : L.length ≤ 1000) : RdP w v L := by
  obtain ⟨a, c, us, rfl, h2, h3⟩ := h
  refine ⟨by omega, a, c, rfl, ?_⟩
  by_cases h0 : L = []
  · exact .inl h0
  · have hp : 0 < L.length := by
      rcases L with _ | ⟨x, l⟩
      · exact absurd rfl h0
      · simp
    obtain ⟨g, rfl⟩ : ∃ g, a = some ⟨g, 0, none⟩ := by
      rcases h2.2.2.2 with ⟨_, h⟩ | ⟨g, cap, cur, h, _⟩
      · omega
      · simp only [Value.slice.injEq] at h
        exact ⟨g, h.1⟩
    refine .inr ⟨g, 0, rfl, fun i hi => ?_⟩
    have hu : i < us.length := by rw [← h2.1]; exact hi
    refine ⟨us[i], ?_, ?_⟩
    · have := h2.2.2.cellAt i (by omega)
      simp only [Nat.zero_add]
      rw [this]
      simp [hu]
    · have hm : (us[i], L[i]) ∈ us.zip L := by
        have hz : i < (us.zip L).length := by simp; omega
        have := List.getElem_mem hz
        simpa using this
      have o := h3.own _ hm
      have e : L.getD i [] = L[i] := by simp [List.getD, hi]
      rw [e]
      exact o.1.rd o.2.1 (by have := o.2.2; simp only at this ⊢; omega)

set_option maxRecDepth 100000 in
set_option maxHeartbeats 4000000 in
theorem answers_any (v : Nat) (hv : v < 18446744073709551616) {vb va : Value} {bs all : List Nat} {z : Int} {w : World} (hb : Rd w vb bs) (ha : Rd w va all) (ht : Tab w) (hl : bs.length ≤ 1048576) (hla : all.length ≤ 1048576) :
    Calls Tryd.prog 7 #[.int .u64 (v : Int), vb, va, .int .i64 z] w fun e w' => ∃ u, e = .returned u ∧ Nine w' w.heap.size u (ansL v bs all z) ∧ Below w.heap.size w w' := by
  obtain ⟨i0, hi, hz0, hz1, hz2⟩ := info_parts info_row
  obtain ⟨ab, nb, cb, rfl⟩ := rd_slice hb
  obtain ⟨aa, na, ca, rfl⟩ := rd_slice ha
  have hna := (rd_lens ha).1
  have HNA := Lib.hid hna
  have HBA := Lib.hid (And.intro hb (And.intro ha ht))
  have hna2 : (na : Int) ≤ 1048576 := by rw [hna]; omega
  have HZ := Lib.hid (zok ha.1 z (all.length : Int))
  clear hb ha ht hna
  go_enter Tryd.func7, Tryd.ntmps7
  go_wp2_with fail
  refine (written_own v hv HBA.out.1 HBA.out.2.2 hl).mono ?_
  rintro e w1 ⟨g, c0, rfl, six, hb1⟩
  obtain ⟨u0, u1, u2, u3, u4, u5, hcells, o0, o1, o2, o3, o4, o5, P1⟩ := six
  have HP1 := Lib.hid P1
  have HC := Lib.hid hcells
  have HO := Lib.hid (And.intro o0 (And.intro o1 (And.intro o2 (And.intro o3 (And.intro o4 o5)))))
  have HB1 := Lib.hid hb1
  clear P1 hcells o0 o1 o2 o3 o4 o5 hb1
  obtain ⟨us, hus⟩ : ∃ us, us = [u0, u1, u2, u3, u4, u5] := ⟨_, rfl⟩
  have HUS := Lib.hid hus
  have HCU : Hid (∀ t, t < 6 → ∃ a m c, us[t]? = some (.slice a m c) ∧ w1.cell? ⟨g, t * 2, none⟩ = some (.slice a m c)) := by
    unfold Hid
    rw [hus]
    intro t ht
    have hc := HC.out
    have sl : ∀ p ∈ [(u0, uintL v), (u1, be8 (v / 2)), (u2, be8 (9223372036854775807 - v / 2)), (u3, bytesL bs), (u4, ordL bs), (u5, frameL bs)], ∃ a m c, p.1 = .slice a m c := fun p hp => by
      obtain ⟨a, c, e⟩ := own_form (HP1.out.own p hp).1.2
      exact ⟨a, _, c, e⟩
    match t, ht with
    | 0, _ => obtain ⟨a, m, c, e⟩ := sl (u0, _) (List.mem_of_getElem? (i := 0) rfl); exact ⟨a, m, c, by rw [← e]; rfl, by rw [← e]; exact hc 0 u0 rfl⟩
    | 1, _ => obtain ⟨a, m, c, e⟩ := sl (u1, _) (List.mem_of_getElem? (i := 1) rfl); exact ⟨a, m, c, by rw [← e]; rfl, by rw [← e]; exact hc 2 u1 rfl⟩
    | 2, _ => obtain ⟨a, m, c, e⟩ := sl (u2, _) (List.mem_of_getElem? (i := 2) rfl); exact ⟨a, m, c, by rw [← e]; rfl, by rw [← e]; exact hc 4 u2 rfl⟩
    | 3, _ => obtain ⟨a, m, c, e⟩ := sl (u3, _) (List.mem_of_getElem? (i := 3) rfl); exact ⟨a, m, c, by rw [← e]; rfl, by rw [← e]; exact hc 6 u3 rfl⟩
    | 4, _ => obtain ⟨a, m, c, e⟩ := sl (u4, _) (List.mem_of_getElem? (i := 4) rfl); exact ⟨a, m, c, by rw [← e]; rfl, by rw [← e]; exact hc 8 u4 rfl⟩
    | 5, _ => obtain ⟨a, m, c, e⟩ := sl (u5, _) (List.mem_of_getElem? (i := 5) rfl); exact ⟨a, m, c, by rw [← e]; rfl, by rw [← e]; exact hc 10 u5 rfl⟩
  have lus : us.length = 6 := by rw [hus]; rfl
  have HLU := Lib.hid lus
  clear hus lus
  go_wp2
  go_loopw [10, 11] (fun l i wr => ∃ t a c, t ≤ 6 ∧ i = .int .i64 ((t : Nat) : Int) ∧ l = .slice a t c ∧ Hid (RowS wr w1.heap.size (.slice a t c) t (us.take t) ∧ Below w1.heap.size w1 wr)) (fun _ i _ => 6 - (intOf i).toNat)
  case atStart => exact ⟨0, none, 0, by omega, rfl, rfl, ⟨rfl, by simp, World.ownsRow_nil _ _ _ _⟩, Below.refl _ _⟩
  case round =>
    obtain ⟨t, al, cl, ht, rfl, rfl, HR⟩ := hrel
    by_cases hlt : t < 6
    · have hlt2 : (t : Int) < 6 := by omega
      have ht0 : (0 : Int) ≤ (t : Int) := by omega
      obtain ⟨au, mu, cu, hu, hc⟩ := HCU.out t hlt
      have hc2 : wr.cell? ⟨g, t * 2, none⟩ = some (.slice au mu cu) := by rw [HR.out.2.cell (World.block_lt_of_cell? _ _ hc)]; exact hc
      have RT := HR.out.1
      have hBr := HR.out.2.size
      have HU := Lib.hid hu
      clear hc hu
      go_wp2_with (at_builtin; refine wpList_append_one rfl _ _ rfl w1.heap.size al t cl (us.take t) rfl RT (.slice au mu cu) rfl rfl (by omega) hBr ?_; intro al' cl' w2 r2 g2 b2; refine Hid.out ?_)
      refine Lib.hid ?_
      have H2 : Hid (RowS w2 w1.heap.size (.slice al' (t + 1) cl') (t + 1) (us.take (t + 1)) ∧ Below w1.heap.size w1 w2) := by
        refine ⟨?_, ?_⟩
        · rw [List.take_add_one, HU.out]
          exact r2
        · refine ⟨g2.os.trans HR.out.2.os, g2.tape.trans HR.out.2.tape, g2.output.trans HR.out.2.output, Nat.le_trans HR.out.2.size g2.size, fun i hi => ?_⟩
          rw [g2.block i (by omega) (fun e => by have := (RT.2.2.lt i e.symm).1; omega), HR.out.2.block i hi]
      clear r2 g2 b2 RT hc2
      go_wp2
      go_roundw
      case rel => exact ⟨t + 1, al', cl', by omega, by go_num, rfl, H2⟩
      case measure => simp [intOf]; omega
    · have hge : (6 : Int) ≤ (t : Int) := by omega
      obtain rfl : t = 6 := by omega
      have HR6 : Hid (RowS wr w1.heap.size (.slice al 6 cl) 6 us ∧ Below w1.heap.size w1 wr) := by
        have h := HR.out
        rw [List.take_of_length_le (by rw [HLU.out]; omega)] at h
        exact h
      obtain ⟨⟨L1, Q1, E1⟩, q1⟩ : ∃ q, bytesZ all z (all.length : Int) = q := ⟨_, rfl⟩
      obtain ⟨⟨L2, Q2, E2⟩, q2⟩ : ∃ q, ordZ all z = q := ⟨_, rfl⟩
      obtain ⟨⟨L3, Q3, E3⟩, q3⟩ : ∃ q, frameZ all z = q := ⟨_, rfl⟩
      have HQ := Lib.hid (And.intro q1 (And.intro q2 q3))
      have HZ2 : Hid ((Bys L1 ∧ L1.length ≤ all.length) ∧ (Bys L2 ∧ L2.length ≤ all.length) ∧ (Bys L3 ∧ L3.length ≤ all.length)) := by
        have h := HZ.out
        rw [q1, q2, q3] at h
        exact h
      have HBr : Hid (Below w.heap.size w wr) := HB1.out.trans (HR6.out.2.mono HB1.out.size)
      have PW := Lib.hid (HP1.out.later HR6.out.2)
      rw [← HNA.out] at q1
      have CK : Hid (Calls _ _ _ _ _) := readBytes_o (HBA.out.2.1.later HBr.out) z (na : Int) (by omega) (by omega) q1
      clear HR q1 q2 q3 HZ
      go_wp2_with fail
      refine CK.out.mono ?_
      rintro r w2 ⟨x1, y1, z1, rfl, ox, hb2⟩
      have hsr := HBr.out.size
      have P2 := Lib.hid (PW.out.push0 hb2 (own_len ox) hsr HZ2.out.1.1 (by have := HZ2.out.1.2; omega))
      have R2 := Lib.hid (HR6.out.1.later hb2)
      have B2 := Lib.hid (HBr.out.trans (hb2.mono hsr))
      have W2 := Lib.hid (HR6.out.2.trans (hb2.mono HR6.out.2.size))
      clear CK ox hb2 PW HR6 HBr hsr
      have CK : Hid (Calls _ _ _ _ _) := readOrdered_o (HBA.out.2.1.later B2.out) z (by omega) HQ.out.2.1
      go_wp2_with fail
      refine CK.out.mono ?_
      rintro r w3 ⟨x2, y2, z2, rfl, ox, hb3⟩
      have hsr := B2.out.size
      have P3 := Lib.hid (P2.out.push0 hb3 (own_len ox) hsr HZ2.out.2.1.1 (by have := HZ2.out.2.1.2; omega))
      have R3 := Lib.hid (R2.out.later hb3)
      have B3 := Lib.hid (B2.out.trans (hb3.mono hsr))
      have W3 := Lib.hid (W2.out.trans (hb3.mono W2.out.size))
      clear CK ox hb3 P2 R2 B2 W2 hsr
      have CK : Hid (Calls _ _ _ _ _) := readFrame_o (HBA.out.2.1.later B3.out) (HBA.out.2.2.later B3.out) z (by omega) HQ.out.2.2
      go_wp2_with fail
      refine CK.out.mono ?_
      rintro r w4 ⟨x3, y3, z3, rfl, ox, hb4⟩
      have hsr := B3.out.size
      have P4 := Lib.hid (P3.out.push0 hb4 (own_len ox) hsr HZ2.out.2.2.1 (by have := HZ2.out.2.2.2; omega))
      have R4 := R3.out.later hb4
      have B4 := Lib.hid (B3.out.trans (hb4.mono hsr))
      have W4 := Lib.hid (W3.out.trans (hb4.mono W3.out.size))
      have hw14 : w1.heap.size ≤ w4.heap.size := W4.out.size
      clear CK ox hb4 P3 R3 B3 W3 hsr
      go_wp2_with (at_builtin; refine wpList_append_own _ rfl _ _ 25 rfl w1.heap.size 23 i0 (.slice none 0 0) 1 24 und_parts hi hz0 hz1 hz2 rfl (by decide) _ 6 _ rfl (R4.2.2.alloc _) ⟨w4.heap.size, 0, none⟩ 3 3 [.slice x1 y1 z1, .slice x2 y2 z2, .slice x3 y3 z3] rfl rfl (news_new _ _ _) ?c2 ?c3 ?c4 ?c5 ?_)
      case c2 => intro u hu; simp at hu; rcases hu with rfl | rfl | rfl <;> rfl
      case c3 => unfold maxLen; omega
      case c4 => omega
      case c5 => simp; omega
      intro v' w8 hown8 hgrow _
      obtain ⟨a8, c8, rfl⟩ := rows_form hown8
      have A4 := (Below.refl w4.heap.size w4).alloc (Nat.le_refl _) (.cells ([.slice x1 y1 z1, .slice x2 y2 z2, .slice x3 y3 z3] : List Value).toArray 23)
      have R4a := R4.later A4
      have P4a := P4.out.later A4
      have P8 := P4a.far hgrow (fun p hp x hx => row_own R4a (P4a.own p hp).1 hx)
      have B8 : Below w1.heap.size w1 w8 := (W4.out.trans (A4.mono W4.out.size)).grown hgrow (by simp; omega) (fun k hk => (R4a.2.2.lt k hk).1)
      have F8 : Hid (Nine w8 w.heap.size (.slice a8 9 c8) (ansL v bs all z) ∧ Below w.heap.size w w8) := by
        refine ⟨⟨a8, c8, us ++ [.slice x1 y1 z1, .slice x2 y2 z2, .slice x3 y3 z3], rfl, ⟨?_, ?_, ?_⟩, ?_⟩, HB1.out.trans (B8.mono HB1.out.size)⟩
        · rw [HUS.out]; rfl
        · intro x hx
          rcases List.mem_append.1 hx with hx | hx
          · exact R4.2.1 x hx
          · simp at hx; rcases hx with rfl | rfl | rfl <;> rfl
        · exact (RowS.mono (v := .slice a8 9 c8) (vs := us ++ [.slice x1 y1 z1, .slice x2 y2 z2, .slice x3 y3 z3]) ⟨by rw [HUS.out]; rfl, fun x hx => by
            rcases List.mem_append.1 hx with hx | hx
            · exact R4.2.1 x hx
            · simp at hx; rcases hx with rfl | rfl | rfl <;> rfl, hown8⟩ HB1.out.size).2.2
        · rw [HUS.out]
          unfold ansL
          rw [HQ.out.1, HQ.out.2.1, HQ.out.2.2]
          exact P8
      clear hown8 hgrow P8 B8 P4a R4a A4 R4 P4
      go_wp2
      go_ret
      exact ⟨_, rfl, F8.out⟩

end Go.Proofs.YtledfniedoapiaaDoor
