import Derived.Test.YtledfniedoapiaaDoorJ11
import Derived.Deep.RegionHeld3
import Derived.Lib.Hide
import Derived.Deep.DeepCutAuto
namespace Go.Proofs.YtledfniedoapiaaDoor
open Go.RowKit
set_option linter.unusedVariables false

theorem readBytes_o {v : Value} {bs : List Nat} {w : World} (hr : Rd w v bs) (z most : Int) (hm : most ≤ 9223372036854775807) (h47 : bs.length ≤ 140737488355328) {L : List Nat} {P E : Nat} (h : bytesZ bs z most = (L, P, E)) :
    Calls Tryd.prog 22 #[v, .int .i64 z, .int .i64 most] w fun e w' => ∃ a m c, e = .returned (.tuple #[.slice a m c, .int .i64 (P : Int), .int .i64 (E : Int)]) ∧ Own w' w.heap.size (.slice a m c) m L ∧ Below w.heap.size w w' := by
  by_cases h0 : z < 0 ∨ (bs.length : Int) < z ∨ most < 0
  · rw [bytesZ, if_pos h0] at h
    cases h
    refine (readBytes_out hr z most h0).mono ?_
    rintro e w' ⟨rfl, rfl⟩
    exact ⟨none, 0, 0, rfl, own_nil _ _, Below.refl _ _⟩
  · rw [bytesZ, if_neg h0] at h
    obtain ⟨k, rfl⟩ : ∃ k : Nat, z = (k : Int) := ⟨z.toNat, by omega⟩
    obtain ⟨q, rfl⟩ : ∃ q : Nat, most = (q : Int) := ⟨most.toNat, by omega⟩
    rw [Int.toNat_natCast, Int.toNat_natCast] at h
    refine (readBytes_in hr k q (by omega) (by omega) (by omega)).mono ?_
    rintro e w' ⟨a, m, c, rfl, own, hb⟩
    rw [h] at own ⊢
    exact ⟨a, m, c, rfl, own, hb⟩
theorem readOrdered_o {v : Value} {bs : List Nat} {w : World} (hr : Rd w v bs) (z : Int) (h47 : bs.length ≤ 140737488355328) {L : List Nat} {P E : Nat} (h : ordZ bs z = (L, P, E)) :
    Calls Tryd.prog 23 #[v, .int .i64 z] w fun e w' => ∃ a m c, e = .returned (.tuple #[.slice a m c, .int .i64 (P : Int), .int .i64 (E : Int)]) ∧ Own w' w.heap.size (.slice a m c) m L ∧ Below w.heap.size w w' := by
  rcases place bs z with h0 | ⟨k, rfl, hk, h0⟩
  · rw [ordZ, if_pos h0] at h
    cases h
    refine (readOrdered_out hr z h0).mono ?_
    rintro e w' ⟨rfl, rfl⟩
    exact ⟨none, 0, 0, rfl, own_nil _ _, Below.refl _ _⟩
  · rw [ordZ, if_neg h0, Int.toNat_natCast] at h
    refine (readOrdered_in hr k hk (by omega)).mono ?_
    rintro e w' ⟨a, m, c, rfl, own, hb⟩
    rw [h] at own ⊢
    exact ⟨a, m, c, rfl, own, hb⟩
theorem readFrame_o {v : Value} {bs : List Nat} {w : World} (hr : Rd w v bs) (ht : Tab w) (z : Int) (h47 : bs.length ≤ 140737488355000) {L : List Nat} {P E : Nat} (h : frameZ bs z = (L, P, E)) :
    Calls Tryd.prog 24 #[v, .int .i64 z] w fun e w' => ∃ a m c, e = .returned (.tuple #[.slice a m c, .int .i64 (P : Int), .int .i64 (E : Int)]) ∧ Own w' w.heap.size (.slice a m c) m L ∧ Below w.heap.size w w' := by
  rcases place bs z with h0 | ⟨k, rfl, hk, h0⟩
  · rw [frameZ, if_pos h0] at h
    cases h
    refine (readFrame_out hr z h0).mono ?_
    rintro e w' ⟨rfl, rfl⟩
    exact ⟨none, 0, 0, rfl, own_nil _ _, Below.refl _ _⟩
  · rw [frameZ, if_neg h0, Int.toNat_natCast] at h
    refine (readFrame_in hr ht k hk (by omega)).mono ?_
    rintro e w' ⟨a, m, c, rfl, own, hb⟩
    rw [h] at own ⊢
    exact ⟨a, m, c, rfl, own, hb⟩
theorem zok {bs : List Nat} (hb : Bys bs) (z most : Int) : (Bys (bytesZ bs z most).1 ∧ (bytesZ bs z most).1.length ≤ bs.length) ∧ (Bys (ordZ bs z).1 ∧ (ordZ bs z).1.length ≤ bs.length) ∧ (Bys (frameZ bs z).1 ∧ (frameZ bs z).1.length ≤ bs.length) := by
  have hn : Bys ([] : List Nat) ∧ ([] : List Nat).length ≤ bs.length := ⟨fun x hx => by simp at hx, by simp⟩
  refine ⟨?_, ?_, ?_⟩
  · unfold bytesZ
    split
    · exact hn
    · exact bytesR_ok bs _ _ hb
  · unfold ordZ
    split
    · exact hn
    · exact ordR_ok bs _ hb
  · unfold frameZ
    split
    · exact hn
    · exact frameR_ok bs _ hb
theorem RowS.mono {w : World} {B B' n : Nat} {v : Value} {vs : List Value} (h : RowS w B v n vs) (hB : B' ≤ B) : RowS w B' v n vs := by
  refine ⟨h.1, h.2.1, h.2.2.1, ?_⟩
  rcases h.2.2.2 with h2 | ⟨g, cap, cur, h3, h4, h5, h6⟩
  · exact .inl h2
  · exact .inr ⟨g, cap, cur, h3, Nat.le_trans hB h4, h5, h6⟩
theorem Pend.far {w w' : World} {B : Nat} {its : List Item} {vs : List (Value × List Nat)} {o : Option Nat} (h : Pend w B its vs) (k : w.grownBy w' o) (hne : ∀ p ∈ vs, ∀ x, o = some x → p.1.ownBlock ≠ some x) : Pend w' B its vs :=
  ⟨fun p hp => ⟨(h.own p hp).1.far k (hne p hp), (h.own p hp).2⟩, h.ap, h.hap⟩
/-- What the calls hand out, of a number, of bytes, of what stands in all at a place. -/
def ansL (v : Nat) (bs all : List Nat) (z : Int) : List (List Nat) := [uintL v, be8 (v / 2), be8 (9223372036854775807 - v / 2), bytesL bs, ordL bs, frameL bs, (bytesZ all z (all.length : Int)).1, (ordZ all z).1, (frameZ all z).1]
/-- A row of byte strings, each of which owns its bytes, all apart. -/
def Nine (w : World) (B : Nat) (v : Value) (L : List (List Nat)) : Prop := ∃ a c us, v = .slice a L.length c ∧ RowS w B (.slice a L.length c) L.length us ∧ Pend w B [] (us.zip L)
theorem Nine.later {w w' : World} {B : Nat} {v : Value} {L : List (List Nat)} (h : Nine w B v L) (hb : Below w.heap.size w w') : Nine w' B v L := by
  obtain ⟨a, c, us, h1, h2, h3⟩ := h
  exact ⟨a, c, us, h1, h2.later hb, h3.later hb⟩
theorem Nine.rdp {w : World} {B : Nat} {v : Value} {L : List (List Nat)} (h : Nine w B v L) (hl : L.length ≤ 1000) : RdP w v L := by
  obtain ⟨a, c, us, rfl, h2, h3⟩ := h
  refine ⟨by omega, a, c, rfl, ?_⟩
  by_cases h0 : L = []
  · exact .inl h0
  · have hp : 0 < L.length := by
      rcases L with _ | ⟨x, l⟩
      · exact absurd rfl h0
      · simp
    obtain ⟨g, rfl⟩ : ∃ g, a = some ⟨g, 0, none⟩ := by
      rcases h2.2.2.2 with ⟨_, h⟩ | ⟨g, cap, cur, h, _⟩
      · omega
      · simp only [Value.slice.injEq] at h
        exact ⟨g, h.1⟩
    refine .inr ⟨g, 0, rfl, fun i hi => ?_⟩
    have hu : i < us.length := by rw [← h2.1]; exact hi
    refine ⟨us[i], ?_, ?_⟩
    · have := h2.2.2.cellAt i (by omega)
      simp only [Nat.zero_add]
      rw [this]
      simp [hu]
    · have hm : (us[i], L[i]) ∈ us.zip L := by
        have hz : i < (us.zip L).length := by simp; omega
        have := List.getElem_mem hz
        simpa using this
      have o := h3.own _ hm
      have e : L.getD i [] = L[i] := by simp [List.getD, hi]
      rw [e]
      exact o.1.rd o.2.1 (by have := o.2.2; simp only at this ⊢; omega)

set_option maxRecDepth 100000 in
set_option maxHeartbeats 4000000 in
theorem answers_any (v : Nat) (hv : v < 18446744073709551616) {vb va : Value} {bs all : List Nat} {z : Int} {w : World} (hb : Rd w vb bs) (ha : Rd w va all) (ht : Tab w) (hl : bs.length ≤ 1048576) (hla : all.length ≤ 1048576) :
    Calls Tryd.prog 7 #[.int .u64 (v : Int), vb, va, .int .i64 z] w fun e w' => ∃ u, e = .returned u ∧ Nine w' w.heap.size u (ansL v bs all z) ∧ Below w.heap.size w w' := by
  obtain ⟨i0, hi, hz0, hz1, hz2⟩ := info_parts info_row
  obtain ⟨ab, nb, cb, rfl⟩ := rd_slice hb
  obtain ⟨aa, na, ca, rfl⟩ := rd_slice ha
  have hna := (rd_lens ha).1
  have HNA := Lib.hid hna
  have HBA := Lib.hid (And.intro hb (And.intro ha ht))
  have hna2 : (na : Int) ≤ 1048576 := by rw [hna]; omega
  have HZ := Lib.hid (zok ha.1 z (all.length : Int))
  clear hb ha ht hna
  go_enter Tryd.func7, Tryd.ntmps7
  go_wp2_with fail
  refine (written_own v hv HBA.out.1 HBA.out.2.2 hl).mono ?_
  rintro e w1 ⟨g, c0, rfl, six, hb1⟩
  obtain ⟨u0, u1, u2, u3, u4, u5, hcells, o0, o1, o2, o3, o4, o5, P1⟩ := six
  have HP1 := Lib.hid P1
  have HC := Lib.hid hcells
  have HO := Lib.hid (And.intro o0 (And.intro o1 (And.intro o2 (And.intro o3 (And.intro o4 o5)))))
  have HB1 := Lib.hid hb1
  clear P1 hcells o0 o1 o2 o3 o4 o5 hb1
  obtain ⟨us, hus⟩ : ∃ us, us = [u0, u1, u2, u3, u4, u5] := ⟨_, rfl⟩
  have HUS := Lib.hid hus
  have HCU : Hid (∀ t, t < 6 → ∃ a m c, us[t]? = some (.slice a m c) ∧ w1.cell? ⟨g, t * 2, none⟩ = some (.slice a m c)) := by
    unfold Hid
    rw [hus]
    intro t ht
    have hc := HC.out
    have sl : ∀ p ∈ [(u0, uintL v), (u1, be8 (v / 2)), (u2, be8 (9223372036854775807 - v / 2)), (u3, bytesL bs), (u4, ordL bs), (u5, frameL bs)], ∃ a m c, p.1 = .slice a m c := fun p hp => by
      obtain ⟨a, c, e⟩ := own_form (HP1.out.own p hp).1.2
      exact ⟨a, _, c, e⟩
    match t, ht with
    | 0, _ => obtain ⟨a, m, c, e⟩ := sl (u0, _) (List.mem_of_getElem? (i := 0) rfl); exact ⟨a, m, c, by rw [← e]; rfl, by rw [← e]; exact hc 0 u0 rfl⟩
    | 1, _ => obtain ⟨a, m, c, e⟩ := sl (u1, _) (List.mem_of_getElem? (i := 1) rfl); exact ⟨a, m, c, by rw [← e]; rfl, by rw [← e]; exact hc 2 u1 rfl⟩
    | 2, _ => obtain ⟨a, m, c, e⟩ := sl (u2, _) (List.mem_of_getElem? (i := 2) rfl); exact ⟨a, m, c, by rw [← e]; rfl, by rw [← e]; exact hc 4 u2 rfl⟩
    | 3, _ => obtain ⟨a, m, c, e⟩ := sl (u3, _) (List.mem_of_getElem? (i := 3) rfl); exact ⟨a, m, c, by rw [← e]; rfl, by rw [← e]; exact hc 6 u3 rfl⟩
    | 4, _ => obtain ⟨a, m, c, e⟩ := sl (u4, _) (List.mem_of_getElem? (i := 4) rfl); exact ⟨a, m, c, by rw [← e]; rfl, by rw [← e]; exact hc 8 u4 rfl⟩
    | 5, _ => obtain ⟨a, m, c, e⟩ := sl (u5, _) (List.mem_of_getElem? (i := 5) rfl); exact ⟨a, m, c, by rw [← e]; rfl, by rw [← e]; exact hc 10 u5 rfl⟩
  have lus : us.length = 6 := by rw [hus]; rfl
  have HLU := Lib.hid lus
  clear hus lus
  go_wp2
  go_loopw [10, 11] (fun l i wr => ∃ t a c, t ≤ 6 ∧ i = .int .i64 ((t : Nat) : Int) ∧ l = .slice a t c ∧ Hid (RowS wr w1.heap.size (.slice a t c) t (us.take t) ∧ Below w1.heap.size w1 wr)) (fun _ i _ => 6 - (intOf i).toNat)
  case atStart => exact ⟨0, none, 0, by omega, rfl, rfl, ⟨rfl, by simp, World.ownsRow_nil _ _ _ _⟩, Below.refl _ _⟩
  case round =>
    obtain ⟨t, al, cl, ht, rfl, rfl, HR⟩ := hrel
    by_cases hlt : t < 6
    · have hlt2 : (t : Int) < 6 := by omega
      have ht0 : (0 : Int) ≤ (t : Int) := by omega
      obtain ⟨au, mu, cu, hu, hc⟩ := HCU.out t hlt
      have hc2 : wr.cell? ⟨g, t * 2, none⟩ = some (.slice au mu cu) := by rw [HR.out.2.cell (World.block_lt_of_cell? _ _ hc)]; exact hc
      have RT := HR.out.1
      have hBr := HR.out.2.size
      have HU := Lib.hid hu
      clear hc hu
      go_wp2_with (at_builtin; refine wpList_append_one rfl _ _ rfl w1.heap.size al t cl (us.take t) rfl RT (.slice au mu cu) rfl rfl (by omega) hBr ?_; intro al' cl' w2 r2 g2 b2; refine Hid.out ?_)
      refine Lib.hid ?_
      have H2 : Hid (RowS w2 w1.heap.size (.slice al' (t + 1) cl') (t + 1) (us.take (t + 1)) ∧ Below w1.heap.size w1 w2) := by
        refine ⟨?_, ?_⟩
        · rw [List.take_add_one, HU.out]
          exact r2
        · refine ⟨g2.os.trans HR.out.2.os, g2.tape.trans HR.out.2.tape, g2.output.trans HR.out.2.output, Nat.le_trans HR.out.2.size g2.size, fun i hi => ?_⟩
          rw [g2.block i (by omega) (fun e => by have := (RT.2.2.lt i e.symm).1; omega), HR.out.2.block i hi]
      clear r2 g2 b2 RT hc2
      go_wp2
      go_roundw
      case rel => exact ⟨t + 1, al', cl', by omega, by go_num, rfl, H2⟩
      case measure => simp [intOf]; omega
    · have hge : (6 : Int) ≤ (t : Int) := by omega
      obtain rfl : t = 6 := by omega
      have HR6 : Hid (RowS wr w1.heap.size (.slice al 6 cl) 6 us ∧ Below w1.heap.size w1 wr) := by
        have h := HR.out
        rw [List.take_of_length_le (by rw [HLU.out]; omega)] at h
        exact h
      obtain ⟨⟨L1, Q1, E1⟩, q1⟩ : ∃ q, bytesZ all z (all.length : Int) = q := ⟨_, rfl⟩
      obtain ⟨⟨L2, Q2, E2⟩, q2⟩ : ∃ q, ordZ all z = q := ⟨_, rfl⟩
      obtain ⟨⟨L3, Q3, E3⟩, q3⟩ : ∃ q, frameZ all z = q := ⟨_, rfl⟩
      have HQ := Lib.hid (And.intro q1 (And.intro q2 q3))
      have HZ2 : Hid ((Bys L1 ∧ L1.length ≤ all.length) ∧ (Bys L2 ∧ L2.length ≤ all.length) ∧ (Bys L3 ∧ L3.length ≤ all.length)) := by
        have h := HZ.out
        rw [q1, q2, q3] at h
        exact h
      have HBr : Hid (Below w.heap.size w wr) := HB1.out.trans (HR6.out.2.mono HB1.out.size)
      have PW := Lib.hid (HP1.out.later HR6.out.2)
      rw [← HNA.out] at q1
      have CK : Hid (Calls _ _ _ _ _) := readBytes_o (HBA.out.2.1.later HBr.out) z (na : Int) (by omega) (by omega) q1
      clear HR q1 q2 q3 HZ
      go_wp2_with fail
      refine CK.out.mono ?_
      rintro r w2 ⟨x1, y1, z1, rfl, ox, hb2⟩
      have hsr := HBr.out.size
      have P2 := Lib.hid (PW.out.push0 hb2 (own_len ox) hsr HZ2.out.1.1 (by have := HZ2.out.1.2; omega))
      have R2 := Lib.hid (HR6.out.1.later hb2)
      have B2 := Lib.hid (HBr.out.trans (hb2.mono hsr))
      have W2 := Lib.hid (HR6.out.2.trans (hb2.mono HR6.out.2.size))
      clear CK ox hb2 PW HR6 HBr hsr
      have CK : Hid (Calls _ _ _ _ _) := readOrdered_o (HBA.out.2.1.later B2.out) z (by omega) HQ.out.2.1
      go_wp2_with fail
      refine CK.out.mono ?_
      rintro r w3 ⟨x2, y2, z2, rfl, ox, hb3⟩
      have hsr := B2.out.size
      have P3 := Lib.hid (P2.out.push0 hb3 (own_len ox) hsr HZ2.out.2.1.1 (by have := HZ2.out.2.1.2; omega))
      have R3 := Lib.hid (R2.out.later hb3)
      have B3 := Lib.hid (B2.out.trans (hb3.mono hsr))
      have W3 := Lib.hid (W2.out.trans (hb3.mono W2.out.size))
      clear CK ox hb3 P2 R2 B2 W2 hsr
      have CK : Hid (Calls _ _ _ _ _) := readFrame_o (HBA.out.2.1.later B3.out) (HBA.out.2.2.later B3.out) z (by omega) HQ.out.2.2
      go_wp2_with fail
      refine CK.out.mono ?_
      rintro r w4 ⟨x3, y3, z3, rfl, ox, hb4⟩
      have hsr := B3.out.size
      have P4 := Lib.hid (P3.out.push0 hb4 (own_len ox) hsr HZ2.out.2.2.1 (by have := HZ2.out.2.2.2; omega))
      have R4 := R3.out.later hb4
      have B4 := Lib.hid (B3.out.trans (hb4.mono hsr))
      have W4 := Lib.hid (W3.out.trans (hb4.mono W3.out.size))
      have hw14 : w1.heap.size ≤ w4.heap.size := W4.out.size
      clear CK ox hb4 P3 R3 B3 W3 hsr
      go_wp2_with (at_builtin; refine wpList_append_own _ rfl _ _ 25 rfl w1.heap.size 23 i0 (.slice none 0 0) 1 24 und_parts hi hz0 hz1 hz2 rfl (by decide) _ 6 _ rfl (R4.2.2.alloc _) ⟨w4.heap.size, 0, none⟩ 3 3 [.slice x1 y1 z1, .slice x2 y2 z2, .slice x3 y3 z3] rfl rfl (news_new _ _ _) ?c2 ?c3 ?c4 ?c5 ?_)
      case c2 => intro u hu; simp at hu; rcases hu with rfl | rfl | rfl <;> rfl
      case c3 => unfold maxLen; omega
      case c4 => omega
      case c5 => simp; omega
      intro v' w8 hown8 hgrow _
      obtain ⟨a8, c8, rfl⟩ := rows_form hown8
      have A4 := (Below.refl w4.heap.size w4).alloc (Nat.le_refl _) (.cells ([.slice x1 y1 z1, .slice x2 y2 z2, .slice x3 y3 z3] : List Value).toArray 23)
      have R4a := R4.later A4
      have P4a := P4.out.later A4
      have P8 := P4a.far hgrow (fun p hp x hx => row_own R4a (P4a.own p hp).1 hx)
      have B8 : Below w1.heap.size w1 w8 := (W4.out.trans (A4.mono W4.out.size)).grown hgrow (by simp; omega) (fun k hk => (R4a.2.2.lt k hk).1)
      have F8 : Hid (Nine w8 w.heap.size (.slice a8 9 c8) (ansL v bs all z) ∧ Below w.heap.size w w8) := by
        refine ⟨⟨a8, c8, us ++ [.slice x1 y1 z1, .slice x2 y2 z2, .slice x3 y3 z3], rfl, ⟨?_, ?_, ?_⟩, ?_⟩, HB1.out.trans (B8.mono HB1.out.size)⟩
        · rw [HUS.out]; rfl
        · intro x hx
          rcases List.mem_append.1 hx with hx | hx
          · exact R4.2.1 x hx
          · simp at hx; rcases hx with rfl | rfl | rfl <;> rfl
        · exact (RowS.mono (v := .slice a8 9 c8) (vs := us ++ [.slice x1 y1 z1, .slice x2 y2 z2, .slice x3 y3 z3]) ⟨by rw [HUS.out]; rfl, fun x hx => by
            rcases List.mem_append.1 hx with hx | hx
            · exact R4.2.1 x hx
            · simp at hx; rcases hx with rfl | rfl | rfl <;> rfl, hown8⟩ HB1.out.size).2.2
        · rw [HUS.out]
          unfold ansL
          rw [HQ.out.1, HQ.out.2.1, HQ.out.2.2]
          exact P8
      clear hown8 hgrow P8 B8 P4a R4a A4 R4 P4
      go_wp2
      go_ret
      exact ⟨_, rfl, F8.out⟩

end Go.Proofs.YtledfniedoapiaaDoor

namespace Go.Proofs.YtledfniedoapiaaDoor
open Go.RowKit
set_option linter.unusedVariables false

theorem refReadBytes_o {v : Value} {bs : List Nat} {w : World} (hr : Rd w v bs) (z most : Int) (hm : most ≤ 9223372036854775807) (h47 : bs.length ≤ 140737488355328) {L : List Nat} {P E : Nat} (h : bytesZ bs z most = (L, P, E)) :
    Calls Tryd.prog 39 #[v, .int .i64 z, .int .i64 most] w fun e w' => ∃ a m c, e = .returned (.tuple #[.slice a m c, .int .i64 (P : Int), .int .i64 (E : Int)]) ∧ Own w' w.heap.size (.slice a m c) m L ∧ Below w.heap.size w w' := by
  by_cases h0 : z < 0 ∨ (bs.length : Int) < z ∨ most < 0
  · rw [bytesZ, if_pos h0] at h
    cases h
    refine (refReadBytes_out hr z most h0).mono ?_
    rintro e w' ⟨rfl, rfl⟩
    exact ⟨none, 0, 0, rfl, own_nil _ _, Below.refl _ _⟩
  · rw [bytesZ, if_neg h0] at h
    obtain ⟨k, rfl⟩ : ∃ k : Nat, z = (k : Int) := ⟨z.toNat, by omega⟩
    obtain ⟨q, rfl⟩ : ∃ q : Nat, most = (q : Int) := ⟨most.toNat, by omega⟩
    rw [Int.toNat_natCast, Int.toNat_natCast] at h
    refine (refReadBytes_in hr k q (by omega) (by omega) (by omega)).mono ?_
    rintro e w' ⟨a, m, c, rfl, own, hb⟩
    rw [h] at own ⊢
    exact ⟨a, m, c, rfl, own, hb⟩
theorem refReadOrdered_o {v : Value} {bs : List Nat} {w : World} (hr : Rd w v bs) (z : Int) (h47 : bs.length ≤ 140737488355328) {L : List Nat} {P E : Nat} (h : ordZ bs z = (L, P, E)) :
    Calls Tryd.prog 40 #[v, .int .i64 z] w fun e w' => ∃ a m c, e = .returned (.tuple #[.slice a m c, .int .i64 (P : Int), .int .i64 (E : Int)]) ∧ Own w' w.heap.size (.slice a m c) m L ∧ Below w.heap.size w w' := by
  rcases place bs z with h0 | ⟨k, rfl, hk, h0⟩
  · rw [ordZ, if_pos h0] at h
    cases h
    refine (refReadOrdered_out hr z h0).mono ?_
    rintro e w' ⟨rfl, rfl⟩
    exact ⟨none, 0, 0, rfl, own_nil _ _, Below.refl _ _⟩
  · rw [ordZ, if_neg h0, Int.toNat_natCast] at h
    refine (refReadOrdered_in hr k hk (by omega)).mono ?_
    rintro e w' ⟨a, m, c, rfl, own, hb⟩
    rw [h] at own ⊢
    exact ⟨a, m, c, rfl, own, hb⟩
theorem refReadFrame_o {v : Value} {bs : List Nat} {w : World} (hr : Rd w v bs) (z : Int) (h47 : bs.length ≤ 140737488355000) {L : List Nat} {P E : Nat} (h : frameZ bs z = (L, P, E)) :
    Calls Tryd.prog 41 #[v, .int .i64 z] w fun e w' => ∃ a m c, e = .returned (.tuple #[.slice a m c, .int .i64 (P : Int), .int .i64 (E : Int)]) ∧ Own w' w.heap.size (.slice a m c) m L ∧ Below w.heap.size w w' := by
  rcases place bs z with h0 | ⟨k, rfl, hk, h0⟩
  · rw [frameZ, if_pos h0] at h
    cases h
    refine (refReadFrame_out hr z h0).mono ?_
    rintro e w' ⟨rfl, rfl⟩
    exact ⟨none, 0, 0, rfl, own_nil _ _, Below.refl _ _⟩
  · rw [frameZ, if_neg h0, Int.toNat_natCast] at h
    refine (refReadFrame_in hr k hk (by omega)).mono ?_
    rintro e w' ⟨a, m, c, rfl, own, hb⟩
    rw [h] at own ⊢
    exact ⟨a, m, c, rfl, own, hb⟩
theorem refFalling_at (z : Int) (n : Nat) (hz : z = (n : Int)) (hn : n < 9223372036854775808) (w : World) :
    Calls Tryd.prog 34 #[.int .i64 z] w fun e w' => ∃ a m c, e = .returned (.tuple #[.slice a m c, .int .i64 0]) ∧ Own w' w.heap.size (.slice a m c) m (be8 (9223372036854775807 - n)) ∧ Below w.heap.size w w' := by
  subst hz; exact refFalling_any n hn w
theorem perm3 {α : Type} (a b c : α) (l : List α) : (a :: b :: c :: l).Perm (c :: a :: b :: l) := by
  have h1 : (a :: b :: c :: l).Perm (a :: c :: b :: l) := .cons _ (.swap _ _ _)
  exact h1.trans (.swap _ _ _)
theorem rows_made {w : World} {us : List Value} (k : Nat) (hk : k = us.length) (h1 : ∀ u ∈ us, u.oneCell' = true) (hm : us.length ≤ 1000) : RowS (w.alloc (.cells us.toArray 23)) w.heap.size (.slice (some ⟨w.heap.size, 0, none⟩) k k) k us := by
  refine ⟨hk, h1, by rw [hk]; simp, .inr ⟨w.heap.size, k, us.toArray, rfl, Nat.le_refl _, heap_new w _, Nat.le_refl _, by unfold maxLen; omega, by rw [hk]; simp, by rw [hk]; simp⟩⟩

set_option maxRecDepth 100000 in
set_option maxHeartbeats 4000000 in
/-- The same lists. -/
theorem sameAll_any {va vb : Value} {ps : List (List Nat)} {w : World} (ra : RdP w va ps) (rb : RdP w vb ps) (hl : ps.length ≤ 1000) :
    Calls Tryd.prog 11 #[va, vb] w fun e w' => e = .returned (.bool true) ∧ Below w.heap.size w w' := by
  obtain ⟨_, a, ca, rfl, pa⟩ := ra
  obtain ⟨_, b, cb, rfl, pb⟩ := rb
  obtain ⟨n, hn⟩ : ∃ n, n = ps.length := ⟨_, rfl⟩
  have HP := Lib.hid (And.intro pa pb)
  rw [← hn] at hl ⊢
  have HN := Lib.hid hn
  clear pa pb hn
  go_enter Tryd.func11, Tryd.ntmps11
  go_wp2
  go_loopw [5] (fun i wr => ∃ t : Nat, t ≤ n ∧ i = .int .i64 (t : Int) ∧ Hid (Below w.heap.size w wr)) (fun i _ => n - (intOf i).toNat)
  case atStart => exact ⟨0, by omega, rfl, Below.refl _ _⟩
  case round =>
    obtain ⟨t, ht, rfl, hb⟩ := hrel
    by_cases hlt : t < n
    · have hlt2 : (t : Int) < (n : Int) := by omega
      have ht0 : (0 : Int) ≤ (t : Int) := by omega
      have hne : ps ≠ [] := fun h => by have := HN.out; rw [h] at this; simp at this; omega
      obtain ⟨p1, p2⟩ := HP.out
      rcases p1 with p1 | ⟨ba, oa, rfl, ka⟩
      · exact absurd p1 hne
      rcases p2 with p2 | ⟨bb, ob, rfl, kb⟩
      · exact absurd p2 hne
      obtain ⟨ua, c1, r1⟩ := ka t (by rw [← HN.out]; exact hlt)
      obtain ⟨ub, c2, r2⟩ := kb t (by rw [← HN.out]; exact hlt)
      obtain ⟨xa, ya, za, rfl⟩ := rd_slice r1
      obtain ⟨xb, yb, zb, rfl⟩ := rd_slice r2
      have e1 : wr.cell? ⟨ba, oa + t, none⟩ = some (.slice xa ya za) := by rw [hb.out.cell (World.block_lt_of_cell? _ _ c1)]; exact c1
      have e2 : wr.cell? ⟨bb, ob + t, none⟩ = some (.slice xb yb zb) := by rw [hb.out.cell (World.block_lt_of_cell? _ _ c2)]; exact c2
      have HRR := Lib.hid (And.intro (r1.later hb.out) (r2.later hb.out))
      clear ka kb c1 c2 r1 r2 hne
      have D0 : Below wr.heap.size wr wr.drew := (Below.refl _ _).drew
      have KS : Hid (∀ wx, Below wr.heap.size wr wx → wx.cell? ⟨ba, oa + t, none⟩ = some (.slice xa ya za) ∧ wx.cell? ⟨bb, ob + t, none⟩ = some (.slice xb yb zb)) := fun wx h => ⟨by rw [h.cell (World.block_lt_of_cell? _ _ e1)]; exact e1, by rw [h.cell (World.block_lt_of_cell? _ _ e2)]; exact e2⟩
      go_wp2_with fail
      go_region_held3 (fun wx => wx.cell? ⟨ba, oa + t, none⟩ = some (.slice xa ya za) ∧ wx.cell? ⟨bb, ob + t, none⟩ = some (.slice xb yb zb)) (first | exact KS.out _ D0 | exact KS.out _ DD1)
        (first | (go_at_call 12; refine (alike_same (HRR.out.1.later D0) (HRR.out.2.later D0)).mono ?_; rintro x1 w1 ⟨rfl, hb1⟩; have DD1 := D0.trans (hb1.mono D0.size)))
      have HB1 := Lib.hid (hb.out.trans (DD1.mono hb.out.size))
      clear KS D0 DD1 hb1 HRR e1 e2
      go_wp2
      go_roundw
      case rel => exact ⟨t + 1, by omega, by go_num, HB1⟩
      case measure => simp [intOf]; omega
    · have hge : (n : Int) ≤ (t : Int) := by omega
      go_wp2
      go_ret
      exact ⟨rfl, hb.out⟩

set_option maxRecDepth 100000 in
set_option maxHeartbeats 4000000 in
/-- What the document wants. -/
theorem wants_any (v : Nat) (hv : v < 18446744073709551616) {vb va : Value} {bs all : List Nat} {z : Int} {w : World} (hb : Rd w vb bs) (ha : Rd w va all) (hl : bs.length ≤ 1048576) (hla : all.length ≤ 1048576) :
    Calls Tryd.prog 18 #[.int .u64 (v : Int), vb, va, .int .i64 z] w fun e w' => ∃ u, e = .returned u ∧ Nine w' w.heap.size u (ansL v bs all z) ∧ Below w.heap.size w w' := by
  obtain ⟨i0, hi, hz0, hz1, hz2⟩ := info_parts info_row
  obtain ⟨ab, nb, cb, rfl⟩ := rd_slice hb
  obtain ⟨aa, na, ca, rfl⟩ := rd_slice ha
  have hnb := (rd_lens hb).1
  have hna := (rd_lens ha).1
  have HNA := Lib.hid hna
  have HBA := Lib.hid (And.intro hb ha)
  have hnb2 : (nb : Int) ≤ 1048576 := by rw [hnb]; omega
  have hna2 : (na : Int) ≤ 1048576 := by rw [hna]; omega
  have HZ := Lib.hid (zok ha.1 z (all.length : Int))
  have HDIV : Hid (((v : Int) / 2) = ((v / 2 : Nat) : Int)) := by unfold Hid; omega
  have HV2 : Hid (v / 2 < 9223372036854775808) := by unfold Hid; omega
  have HORD : Hid ((ordL bs).length ≤ 4194304) := by
    unfold Hid
    have h1 := ordL_len bs
    have h2 : bs.count 0 ≤ bs.length := List.count_le_length
    omega
  have hbys := hb.1
  have HBL : Hid (Bys (bytesL bs) ∧ (bytesL bs).length ≤ 4194304) := by
    refine ⟨(uintL_bys _ (by omega)).app hbys, ?_⟩
    have h2 := uintL_len bs.length
    unfold bytesL
    rw [List.length_append]
    omega
  have HFL : Hid (Bys (frameL bs) ∧ (frameL bs).length ≤ 4194304) := ⟨frameL_bys bs hbys hl, by simp [frameL, be4, le4]; omega⟩
  have HBY := Lib.hid hbys
  clear hb ha hna hnb hbys
  go_enter Tryd.func18, Tryd.ntmps18
  go_wp2_with fail
  refine (refRising_at _ (v / 2) HDIV.out HV2.out _).mono ?_
  rintro e w1 ⟨a1, m1, c1, rfl, own1, hb1⟩
  have P1 := Lib.hid (show Pend w1 w.heap.size [] [(.slice a1 m1 c1, be8 (v / 2))] from (Pend.nil w w.heap.size []).push0 hb1 (own_len own1) (Nat.le_refl _) (be8_bys _) (by simp [be8]))
  have B1 := Lib.hid hb1
  clear own1 hb1
  go_wp2_with fail
  refine (refFalling_at _ (v / 2) HDIV.out HV2.out _).mono ?_
  rintro e w2 ⟨a2, m2, c2, rfl, own2, hb2⟩
  have P2 := Lib.hid (show Pend w2 w.heap.size [] [(.slice a1 m1 c1, be8 (v / 2)), (.slice a2 m2 c2, be8 (9223372036854775807 - v / 2))] from P1.out.push0 hb2 (own_len own2) B1.out.size (be8_bys _) (by simp [be8]))
  have B2 := Lib.hid (B1.out.trans (hb2.mono B1.out.size))
  clear own2 hb2 P1 B1
  go_wp2_with fail
  refine (refUint_any v hv _).mono ?_
  rintro e w3 ⟨a3, m3, c3, rfl, own3, hb3⟩
  have P3 := Lib.hid (show Pend w3 w.heap.size [] [(.slice a1 m1 c1, be8 (v / 2)), (.slice a2 m2 c2, be8 (9223372036854775807 - v / 2)), (.slice a3 m3 c3, uintL v)] from P2.out.push0 hb3 (own_len own3) B2.out.size (uintL_bys v hv) (by have := (uintL_len v).2; omega))
  have B3 := Lib.hid (B2.out.trans (hb3.mono B2.out.size))
  clear own3 hb3 P2 B2
  go_wp2_with fail
  refine (refBytes_any (HBA.out.1.later B3.out) (by omega)).mono ?_
  rintro e w4 ⟨a4, m4, c4, rfl, own4, hb4⟩
  have P4 := Lib.hid (show Pend w4 w.heap.size [] [(.slice a1 m1 c1, be8 (v / 2)), (.slice a2 m2 c2, be8 (9223372036854775807 - v / 2)), (.slice a3 m3 c3, uintL v), (.slice a4 m4 c4, bytesL bs)] from P3.out.push0 hb4 (own_len own4) B3.out.size HBL.out.1 HBL.out.2)
  have B4 := Lib.hid (B3.out.trans (hb4.mono B3.out.size))
  clear own4 hb4 P3 B3
  go_wp2_with fail
  refine (refOrdered_any (HBA.out.1.later B4.out) (by have := HORD.out; omega)).mono ?_
  rintro e w5 ⟨a5, m5, c5, rfl, own5, hb5⟩
  have P5 := Lib.hid (show Pend w5 w.heap.size [] [(.slice a1 m1 c1, be8 (v / 2)), (.slice a2 m2 c2, be8 (9223372036854775807 - v / 2)), (.slice a3 m3 c3, uintL v), (.slice a4 m4 c4, bytesL bs), (.slice a5 m5 c5, ordL bs)] from P4.out.push0 hb5 (own_len own5) B4.out.size (ordL_bys bs HBY.out) HORD.out)
  have B5 := Lib.hid (B4.out.trans (hb5.mono B4.out.size))
  clear own5 hb5 P4 B4
  go_wp2_with fail
  have A5 := (Below.refl w5.heap.size w5).alloc (Nat.le_refl _) (.cells #[.slice a3 m3 c3, .slice a1 m1 c1, .slice a2 m2 c2, .slice a4 m4 c4, .slice a5 m5 c5] 23)
  have R5 : RowS (w5.alloc (.cells #[.slice a3 m3 c3, .slice a1 m1 c1, .slice a2 m2 c2, .slice a4 m4 c4, .slice a5 m5 c5] 23)) w5.heap.size (.slice (some ⟨w5.heap.size, 0, none⟩) 5 5) 5 [.slice a3 m3 c3, .slice a1 m1 c1, .slice a2 m2 c2, .slice a4 m4 c4, .slice a5 m5 c5] := rows_made 5 rfl (by intro u hu; simp at hu; rcases hu with rfl | rfl | rfl | rfl | rfl <;> rfl) (by simp)
  have B5a := B5.out.trans (A5.mono B5.out.size)
  refine (refFrame_ok (HBA.out.1.later B5a) hl).mono ?_
  rintro e w6 ⟨a6, m6, c6, rfl, own6, hb6⟩
  have P6 := Lib.hid (show Pend w6 w.heap.size [] [(.slice a1 m1 c1, be8 (v / 2)), (.slice a2 m2 c2, be8 (9223372036854775807 - v / 2)), (.slice a3 m3 c3, uintL v), (.slice a4 m4 c4, bytesL bs), (.slice a5 m5 c5, ordL bs), (.slice a6 m6 c6, frameL bs)] from (P5.out.later A5).push0 hb6 (own_len own6) B5a.size HFL.out.1 HFL.out.2)
  have R6 := R5.later hb6
  have W6 := Lib.hid (A5.trans (hb6.mono A5.size))
  have hB6 : w5.heap.size ≤ w6.heap.size := W6.out.size
  clear own6 hb6 P5 R5 A5 B5a
  go_upto_region 8 with (at_builtin; refine wpList_append_one rfl _ _ rfl w5.heap.size _ 5 5 _ rfl R6 (.slice a6 m6 c6) rfl rfl (by omega) hB6 ?_; intro a7 c7 w7 r7 g7 b7; have R7 := Lib.hid r7; have G7 := Lib.hid g7; clear r7 g7 b7)
  have PW := Lib.hid (P6.out.far G7.out (fun p hp x hx => row_own R6 (P6.out.own p hp).1 hx))
  have W7 : Hid (Below w5.heap.size w5 w7) := by
    refine ⟨G7.out.os.trans W6.out.os, G7.out.tape.trans W6.out.tape, G7.out.output.trans W6.out.output, Nat.le_trans W6.out.size G7.out.size, fun i hi => ?_⟩
    rw [G7.out.block i (by omega) (fun e => by have := (R6.2.2.lt i e.symm).1; omega), W6.out.block i hi]
  have HR6 : Hid (RowS w7 w5.heap.size (.slice a7 6 c7) 6 [.slice a3 m3 c3, .slice a1 m1 c1, .slice a2 m2 c2, .slice a4 m4 c4, .slice a5 m5 c5, .slice a6 m6 c6] ∧ Below w5.heap.size w5 w7) := ⟨R7.out, W7.out⟩
  have HBr : Hid (Below w.heap.size w w7) := B5.out.trans (W7.out.mono B5.out.size)
  clear P6 R6 R7 G7 W6 W7 hB6
  obtain ⟨⟨L1, Q1, E1⟩, q1⟩ : ∃ q, bytesZ all z (all.length : Int) = q := ⟨_, rfl⟩
  obtain ⟨⟨L2, Q2, E2⟩, q2⟩ : ∃ q, ordZ all z = q := ⟨_, rfl⟩
  obtain ⟨⟨L3, Q3, E3⟩, q3⟩ : ∃ q, frameZ all z = q := ⟨_, rfl⟩
  have HQ := Lib.hid (And.intro q1 (And.intro q2 q3))
  have HZ2 : Hid ((Bys L1 ∧ L1.length ≤ all.length) ∧ (Bys L2 ∧ L2.length ≤ all.length) ∧ (Bys L3 ∧ L3.length ≤ all.length)) := by
    have h := HZ.out
    rw [q1, q2, q3] at h
    exact h
  rw [← HNA.out] at q1
  have CK : Hid (Calls _ _ _ _ _) := refReadBytes_o (HBA.out.2.later HBr.out) z (na : Int) (by omega) (by omega) q1
  clear q1 q2 q3 HZ
  go_wp2_with fail
  refine CK.out.mono ?_
  rintro r w8 ⟨x1, y1, z1, rfl, ox, hb2⟩
  have hsr := HBr.out.size
  have P2 := Lib.hid (PW.out.push0 hb2 (own_len ox) hsr HZ2.out.1.1 (by have := HZ2.out.1.2; omega))
  have R2 := Lib.hid (HR6.out.1.later hb2)
  have B2 := Lib.hid (HBr.out.trans (hb2.mono hsr))
  have W2 := Lib.hid (HR6.out.2.trans (hb2.mono HR6.out.2.size))
  clear CK ox hb2 PW HR6 HBr hsr
  have CK : Hid (Calls _ _ _ _ _) := refReadOrdered_o (HBA.out.2.later B2.out) z (by omega) HQ.out.2.1
  go_wp2_with fail
  refine CK.out.mono ?_
  rintro r w9 ⟨x2, y2, z2, rfl, ox, hb3⟩
  have hsr := B2.out.size
  have P3 := Lib.hid (P2.out.push0 hb3 (own_len ox) hsr HZ2.out.2.1.1 (by have := HZ2.out.2.1.2; omega))
  have R3 := Lib.hid (R2.out.later hb3)
  have B3 := Lib.hid (B2.out.trans (hb3.mono hsr))
  have W3 := Lib.hid (W2.out.trans (hb3.mono W2.out.size))
  clear CK ox hb3 P2 R2 B2 W2 hsr
  have CK : Hid (Calls _ _ _ _ _) := refReadFrame_o (HBA.out.2.later B3.out) z (by omega) HQ.out.2.2
  go_wp2_with fail
  refine CK.out.mono ?_
  rintro r w10 ⟨x3, y3, z3, rfl, ox, hb4⟩
  have hsr := B3.out.size
  have P4 := Lib.hid (P3.out.push0 hb4 (own_len ox) hsr HZ2.out.2.2.1 (by have := HZ2.out.2.2.2; omega))
  have R4 := R3.out.later hb4
  have W4 := Lib.hid (W3.out.trans (hb4.mono W3.out.size))
  have hw14 : w5.heap.size ≤ w10.heap.size := W4.out.size
  clear CK ox hb4 P3 R3 B3 W3 hsr
  go_wp2_with (at_builtin; refine wpList_append_own _ rfl _ _ 25 rfl w5.heap.size 23 i0 (.slice none 0 0) 1 24 und_parts hi hz0 hz1 hz2 rfl (by decide) _ 6 _ rfl (R4.2.2.alloc _) ⟨w10.heap.size, 0, none⟩ 3 3 [.slice x1 y1 z1, .slice x2 y2 z2, .slice x3 y3 z3] rfl rfl (news_new _ _ _) ?c2 ?c3 ?c4 ?c5 ?_)
  case c2 => intro u hu; simp at hu; rcases hu with rfl | rfl | rfl <;> rfl
  case c3 => unfold maxLen; omega
  case c4 => omega
  case c5 => simp; omega
  intro v' w11 hown8 hgrow _
  obtain ⟨a8, c8, rfl⟩ := rows_form hown8
  have A4 := (Below.refl w10.heap.size w10).alloc (Nat.le_refl _) (.cells ([.slice x1 y1 z1, .slice x2 y2 z2, .slice x3 y3 z3] : List Value).toArray 23)
  have R4a := R4.later A4
  have P4a := P4.out.later A4
  have P8 := P4a.far hgrow (fun p hp x hx => row_own R4a (P4a.own p hp).1 hx)
  have B8 : Below w5.heap.size w5 w11 := (W4.out.trans (A4.mono W4.out.size)).grown hgrow (by simp; omega) (fun k hk => (R4a.2.2.lt k hk).1)
  have F8 : Hid (Nine w11 w.heap.size (.slice a8 9 c8) (ansL v bs all z) ∧ Below w.heap.size w w11) := by
    have hone : ∀ x ∈ [.slice a3 m3 c3, .slice a1 m1 c1, .slice a2 m2 c2, .slice a4 m4 c4, .slice a5 m5 c5, .slice a6 m6 c6] ++ ([.slice x1 y1 z1, .slice x2 y2 z2, .slice x3 y3 z3] : List Value), x.oneCell' = true := by
      intro x hx
      rcases List.mem_append.1 hx with hx | hx
      · exact R4.2.1 x hx
      · simp at hx; rcases hx with rfl | rfl | rfl <;> rfl
    refine ⟨⟨a8, c8, _, rfl, RowS.mono (v := .slice a8 9 c8) ⟨rfl, hone, hown8⟩ B5.out.size, ?_⟩, B5.out.trans (B8.mono B5.out.size)⟩
    unfold ansL
    rw [HQ.out.1, HQ.out.2.1, HQ.out.2.2]
    exact P8.perm (perm3 _ _ _ _)
  clear hown8 hgrow P8 B8 P4a R4a A4 R4 P4
  go_wp2
  go_ret
  exact ⟨_, rfl, F8.out⟩

end Go.Proofs.YtledfniedoapiaaDoor
