import Derived.Test.YtnjopfdeapclhaaJ29
import Derived.Test.YtnjopfdeapclhaaJ24
import Derived.Lib.Hide
import Derived.Deep.RegionHeld3
import Derived.Test.YtnjopfdeapclhaaCell62
import Derived.Test.YtnjopfdeapclhaaJ26
import Derived.Test.YtnjopfdeapclhaaJ17
namespace Go.Proofs.Ytnjopfdeapclhaa
open Go.RowKit
set_option linter.unusedVariables false

/-- What Unpack answers, told exactly. -/
def UnpackedU (w w' : World) (r : Ending) (K V : List Nat) (E1 P2 E2 : Nat) : Prop :=
  Below w.heap.size w w' ∧
  ((∃ D : EntD, E1 = 0 ∧ E2 = 0 ∧ checkS D = 0 ∧ D.val = V ∧ keyL D = K ∧ Bys D.row ∧ Bys D.qual ∧ r = .returned (.tuple #[.agg D.cells, .int .i64 (P2 : Int), .int .i64 0]) ∧ Own w' w.heap.size D.vr D.row.length D.row ∧ ∃ Ba Bb, w.heap.size ≤ Ba ∧ w.heap.size ≤ Bb ∧ Own w' Ba D.vq D.qual.length D.qual ∧ Own w' Bb D.vv V.length V ∧ (∀ k, D.vr.ownBlock = some k → k < Ba) ∧ (∀ k, D.vq.ownBlock = some k → k < Bb) ∧ (∀ k, D.vr.ownBlock = some k → k < Bb)) ∨
   (∃ E : Nat, r = .returned (.tuple #[.agg #[.slice none 0 0, .int .i64 0, .slice none 0 0, .int .i64 0, .int .i64 0, .int .i64 0, .slice none 0 0], .int .i64 0, .int .i64 (E : Int)]) ∧
    ((E1 ≠ 0 ∧ E = E1) ∨ (E1 = 0 ∧ ¬ IsKey K ∧ E = 29) ∨ (E1 = 0 ∧ IsKey K ∧ E2 ≠ 0 ∧ E = E2) ∨ (E1 = 0 ∧ IsKey K ∧ E2 = 0 ∧ (¬ ∃ D : EntD, checkS D = 0 ∧ D.val = V ∧ keyL D = K) ∧ E = 29))))

end Go.Proofs.Ytnjopfdeapclhaa

namespace Go.Proofs.Ytnjopfdeapclhaa
open Go.RowKit
set_option linter.unusedVariables false

/-- Nothing but zero values. -/
def ZeroD (D : EntD) : Prop := D.fam = 0 ∧ D.ts = 0 ∧ D.seq = 0 ∧ D.kind = 0 ∧ D.row = [] ∧ D.qual = [] ∧ D.val = []
theorem zero_data : ZeroD zeroD := ⟨rfl, rfl, rfl, rfl, rfl, rfl, rfl⟩
/-- What the bytes say: an entry, a place, an error. -/
def UDet (K V : List Nat) (E1 P2 E2 : Nat) (D : EntD) (P E : Nat) : Prop :=
  (E1 = 0 ∧ E2 = 0 ∧ checkS D = 0 ∧ D.val = V ∧ keyL D = K ∧ P = P2 ∧ E = 0) ∨
  (ZeroD D ∧ P = 0 ∧ ((E1 ≠ 0 ∧ E = E1) ∨ (E1 = 0 ∧ ¬ IsKey K ∧ E = 29) ∨ (E1 = 0 ∧ IsKey K ∧ E2 ≠ 0 ∧ E = E2) ∨ (E1 = 0 ∧ IsKey K ∧ E2 = 0 ∧ (¬ ∃ D : EntD, checkS D = 0 ∧ D.val = V ∧ keyL D = K) ∧ E = 29)))
theorem isKey_of {D : EntD} (h : checkS D = 0) : IsKey (keyL D) := ⟨⟨.slice none 0 0, D.fam, .slice none 0 0, D.ts, D.seq, D.kind, .slice none 0 0, D.row, D.qual, []⟩, check_drop h _ _ _, rfl, keyL_val D _ _ _ _⟩
theorem ZeroD.same {a b : EntD} (h : ZeroD a) (k : ZeroD b) : EntD.Same a b := by
  obtain ⟨h1, h2, h3, h4, h5, h6, h7⟩ := h
  obtain ⟨k1, k2, k3, k4, k5, k6, k7⟩ := k
  exact ⟨h1.trans k1.symm, h2.trans k2.symm, h3.trans k3.symm, h4.trans k4.symm, h5.trans k5.symm, h6.trans k6.symm, h7.trans k7.symm⟩
theorem UDet.same {K V : List Nat} {E1 P2 E2 : Nat} {D D' : EntD} {P P' E E' : Nat} (h : UDet K V E1 P2 E2 D P E) (k : UDet K V E1 P2 E2 D' P' E') : P = P' ∧ E = E' ∧ EntD.Same D D' := by
  rcases h with ⟨a1, a2, a3, a4, a5, a6, a7⟩ | ⟨a1, a2, a3⟩ <;> rcases k with ⟨b1, b2, b3, b4, b5, b6, b7⟩ | ⟨b1, b2, b3⟩
  · obtain ⟨x1, x2, x3, x4, x5, x6⟩ := key_same a3 b3 (a5.trans b5.symm)
    exact ⟨a6.trans b6.symm, a7.trans b7.symm, x1, x2, x3, x4, x5, x6, a4.trans b4.symm⟩
  · exfalso
    have ik : IsKey K := a5 ▸ isKey_of a3
    rcases b3 with ⟨c, _⟩ | ⟨_, c, _⟩ | ⟨_, _, c, _⟩ | ⟨_, _, _, c, _⟩
    · exact c a1
    · exact c ik
    · exact c a2
    · exact c ⟨D, a3, a4, a5⟩
  · exfalso
    have ik : IsKey K := b5 ▸ isKey_of b3
    rcases a3 with ⟨c, _⟩ | ⟨_, c, _⟩ | ⟨_, _, c, _⟩ | ⟨_, _, _, c, _⟩
    · exact c b1
    · exact c ik
    · exact c b2
    · exact c ⟨D', b3, b4, b5⟩
  · refine ⟨a2.trans b2.symm, ?_, a1.same b1⟩
    rcases a3 with ⟨c, e⟩ | ⟨c1, c, e⟩ | ⟨c1, c2, c, e⟩ | ⟨c1, c2, c3, c, e⟩ <;> rcases b3 with ⟨d, f⟩ | ⟨d1, d, f⟩ | ⟨d1, d2, d, f⟩ | ⟨d1, d2, d3, d, f⟩ <;> first | omega | contradiction
/-- An entry that owns its three byte strings, apart from one another. -/
structure OwnV (w : World) (b : Nat) (D : EntD) : Prop where
  br : Bys D.row ∧ D.row.length ≤ 256
  bq : Bys D.qual ∧ D.qual.length ≤ 256
  bv : Bys D.val ∧ D.val.length ≤ 4096
  row : Own w b D.vr D.row.length D.row
  qual : Own w b D.vq D.qual.length D.qual
  val : Own w b D.vv D.val.length D.val
  arq : ∀ k, D.vr.ownBlock = some k → D.vq.ownBlock ≠ some k
  arv : ∀ k, D.vr.ownBlock = some k → D.vv.ownBlock ≠ some k
  aqv : ∀ k, D.vq.ownBlock = some k → D.vv.ownBlock ≠ some k
theorem OwnV.later {w w' : World} {b : Nat} {D : EntD} (h : OwnV w b D) (hb : Below w.heap.size w w') : OwnV w' b D := ⟨h.br, h.bq, h.bv, h.row.later hb, h.qual.later hb, h.val.later hb, h.arq, h.arv, h.aqv⟩
theorem OwnV.ok {w : World} {b : Nat} {D : EntD} (h : OwnV w b D) : EntD.Ok w D :=
  ⟨h.row.rd h.br.1 (by have := h.br.2; omega), h.qual.rd h.bq.1 (by have := h.bq.2; omega), h.val.rd h.bv.1 (by have := h.bv.2; omega)⟩
theorem OwnV.zero (w : World) (b : Nat) : OwnV w b zeroD := ⟨⟨fun x hx => by simp [zeroD] at hx, by simp [zeroD]⟩, ⟨fun x hx => by simp [zeroD] at hx, by simp [zeroD]⟩, ⟨fun x hx => by simp [zeroD] at hx, by simp [zeroD]⟩, own_nil _ _, own_nil _ _, own_nil _ _, (fun k hk => by cases hk), (fun k hk => by cases hk), (fun k hk => by cases hk)⟩
theorem OwnV.far {w w' : World} {b : Nat} {D : EntD} {o : Option Nat} (h : OwnV w b D) (k : w.grownBy w' o) (hne : ∀ g, o = some g → g < b) : OwnV w' b D :=
  ⟨h.br, h.bq, h.bv, h.row.far k (fun g hg e => by have := hne g hg; have := (h.row.2.lt g e).1; omega), h.qual.far k (fun g hg e => by have := hne g hg; have := (h.qual.2.lt g e).1; omega), h.val.far k (fun g hg e => by have := hne g hg; have := (h.val.2.lt g e).1; omega), h.arq, h.arv, h.aqv⟩
theorem OwnV.fill {w : World} {b g : Nat} {D E : EntD} (h : OwnV w b D) (hg : g < b) : OwnV (filled w g E) b D := ⟨h.br, h.bq, h.bv, h.row.fillo hg, h.qual.fillo hg, h.val.fillo hg, h.arq, h.arv, h.aqv⟩

end Go.Proofs.Ytnjopfdeapclhaa

namespace Go.Proofs.Ytnjopfdeapclhaa
open Go.RowKit
set_option linter.unusedVariables false
end Go.Proofs.Ytnjopfdeapclhaa

namespace Go.Proofs.Ytnjopfdeapclhaa
open Go.RowKit
set_option linter.unusedVariables false
end Go.Proofs.Ytnjopfdeapclhaa

namespace Go.Proofs.Ytnjopfdeapclhaa
open Go.RowKit
set_option linter.unusedVariables false

/-- The three byte strings lie apart. -/
def ApE (D : EntD) : Prop := (∀ g, D.vr.ownBlock = some g → D.vq.ownBlock ≠ some g) ∧ (∀ g, D.vr.ownBlock = some g → D.vv.ownBlock ≠ some g) ∧ (∀ g, D.vq.ownBlock = some g → D.vv.ownBlock ≠ some g)
theorem Laid.own_lt {w : World} {B : Nat} {u : Value} {bs : List Nat} (h : Laid w B u bs) : ∀ g, u.ownBlock = some g → B ≤ g ∧ g < w.heap.size := by
  obtain ⟨g2, c, rfl, h2, h3, h4⟩ := h
  intro g hg
  exact h4.2.lt g hg
/-- Where its byte strings lie: from lo on, below hi. -/
def Within (D : EntD) (lo hi : Nat) : Prop := ∀ g, D.vr.ownBlock = some g ∨ D.vq.ownBlock = some g ∨ D.vv.ownBlock = some g → lo ≤ g ∧ g < hi
theorem LaidE.within {w : World} {B : Nat} {D : EntD} (h : LaidE w B D) : Within D B w.heap.size := by
  intro g hg
  rcases hg with hg | hg | hg
  · exact h.1.own_lt g hg
  · exact h.2.1.own_lt g hg
  · exact h.2.2.own_lt g hg

end Go.Proofs.Ytnjopfdeapclhaa

namespace Go.Proofs.Ytnjopfdeapclhaa
open Go.RowKit
set_option linter.unusedVariables false

theorem same8_true {va vb : Value} {xs : List Nat} {w : World} (ha : Rd w va xs) (hb : Rd w vb xs) :
    Calls Try.prog 38 #[va, vb] w fun e w' => e = .returned (.bool true) ∧ Below w.heap.size w w' := by
  refine (same8_any ha hb).mono ?_
  rintro e w' ⟨rfl, h⟩
  exact ⟨by simp, h⟩
set_option maxRecDepth 100000 in
set_option maxHeartbeats 2000000 in
/-- What laid makes of bytes that it must cut. -/
theorem laid8_cut {a : Option Addr} {n cap : Nat} {bs : List Nat} {w : World} (hr : Rd w (.slice a n cap) bs) (hcut : 5000 < n) :
    Calls Try.prog 47 #[.slice a n cap] w fun e w' => ∃ u, e = .returned u ∧ Laid w' w.heap.size u (bs.take 5000) ∧ Below w.heap.size w w' := by
  obtain ⟨hn, hle, hm, hl48⟩ := rd_lens hr
  have hcut' : (5000 : Int) < (n : Int) := by omega
  rcases rd_some hr with ⟨_, h1, _⟩ | ⟨b, off, rfl⟩
  · omega
  have r1 := hr.upto 5000 (by omega)
  have i1 : (5000 : Int) ≤ (cap : Int) := by omega
  have i2 : (0 : Int) ≤ (5000 : Int) := by omega
  have HK : Hid ((bs.take 5000).length = 5000) := by unfold Hid; rw [List.length_take]; omega
  clear hn hr
  go_enter Try.func47, Try.ntmps47
  go_wp2_with (at_builtin; refine wpList_append_at rfl _ _ rfl w.heap.size none 0 0 [] rfl ⟨rfl, World.ownsRow_nil _ _ _ _⟩ (some ⟨b, off, none⟩) 5000 cap (bs.take 5000) rfl r1 (by omega) (Nat.le_refl _) ?_; intro a1 m1 k1 w1 own1 hb1; rw [List.nil_append] at own1; refine Hid.out ?_)
  refine Lib.hid ?_
  have hm1 : Hid (m1 = 5000) := by unfold Hid; rw [own1.1]; exact HK.out
  have hm1b : m1 ≤ 20000 := by have := hm1.out; omega
  go_wp2_with (at_builtin; refine wpList_append_new rfl _ _ rfl w.heap.size a1 m1 k1 _ rfl own1 [_, _, _, _, _] 5 rfl marks5 rfl rfl (by omega) hb1.size ?_; intro a6 m6 k6 w6 own6 hb6; refine Hid.out ?_)
  refine Lib.hid ?_
  have B6 := hb1.trans hb6
  have hm6 : Hid (m6 = 5000 + 5) := by unfold Hid; rw [own6.1, List.length_append, ← own1.1, hm1.out]; rfl
  clear own1 hb1 hb6
  go_wp2
  go_loopw [3, 4] (fun s i wr => ∃ t a m c, t ≤ 70 ∧ i = .int .i64 ((t : Nat) : Int) ∧ s = .slice a m c ∧ Own wr w.heap.size (.slice a m c) m ((bs.take 5000 ++ marks5) ++ List.replicate t 206) ∧ Below w.heap.size w wr) (fun _ i _ => 70 - (intOf i).toNat)
  case atStart => exact ⟨0, a6, m6, k6, by omega, rfl, rfl, by simpa using own6, B6⟩
  case round =>
    obtain ⟨t, a7, m7, k7, ht, rfl, rfl, own7, B7⟩ := hrel
    have hm7 : Hid (m7 = 5000 + 5 + t) := by unfold Hid; rw [own7.1, List.length_append, List.length_append, HK.out, List.length_replicate]; rfl
    have hm7b : m7 ≤ 20100 := by have := hm7.out; omega
    by_cases hlt : t < 70
    · have hlt' : (t : Int) < 70 := by omega
      go_wp2_with (at_builtin; refine wpList_append_new rfl _ _ rfl w.heap.size a7 m7 k7 _ rfl own7 [_] 1 rfl [206] rfl rfl (by omega) B7.size ?_; intro a8 m8 k8 w8 own8 hb8)
      go_roundw
      case rel => exact ⟨t + 1, a8, m8, k8, by omega, by go_num, rfl, by rw [List.append_assoc, ← List.replicate_succ'] at own8; exact own8, B7.trans hb8⟩
      case measure => simp [intOf]; omega
    · have hge : (70 : Int) ≤ (t : Int) := by omega
      obtain rfl : t = 70 := by omega
      obtain ⟨g, he, hc1, hc2⟩ : ∃ g, a7 = some ⟨g, 0, none⟩ ∧ m7 ≤ k7 ∧ k7 ≤ maxLen := by
        rcases own7.2.2 with ⟨h1, h2⟩ | ⟨g, cp, cur, h1, h2, h3, h4, h5, h6⟩
        · have := hm7.out; omega
        · simp only [Value.slice.injEq] at h1
          exact ⟨g, h1.1, by omega, by omega⟩
      subst he
      have j1 : (5000 : Int) ≤ (k7 : Int) := by have := hm7.out; omega
      have j2 : (0 : Int) ≤ (5000 : Int) := by omega
      go_wp2
      go_ret
      refine ⟨_, rfl, ?_, B7⟩
      have e7 : m7 = (bs.take 5000).length + 75 := by rw [hm7.out, HK.out]
      subst e7
      refine ⟨g, k7, by rw [HK.out]; simp, by omega, hc2, own7⟩

set_option maxRecDepth 100000 in
set_option maxHeartbeats 2000000 in
/-- And of bytes that it leaves whole. -/
theorem laid8_whole {a : Option Addr} {n cap : Nat} {bs : List Nat} {w : World} (hr : Rd w (.slice a n cap) bs) (hcut : n ≤ 5000) :
    Calls Try.prog 47 #[.slice a n cap] w fun e w' => ∃ u, e = .returned u ∧ Laid w' w.heap.size u bs ∧ Below w.heap.size w w' := by
  obtain ⟨hn, hle, hm, hl48⟩ := rd_lens hr
  have hcut' : (n : Int) ≤ (5000 : Int) := by omega
  have HK : Hid (bs.length = n) := hn.symm
  clear hn
  go_enter Try.func47, Try.ntmps47
  go_wp2_with (at_builtin; refine wpList_append_at rfl _ _ rfl w.heap.size none 0 0 [] rfl ⟨rfl, World.ownsRow_nil _ _ _ _⟩ a n cap bs rfl hr (by omega) (Nat.le_refl _) ?_; intro a1 m1 k1 w1 own1 hb1; rw [List.nil_append] at own1; refine Hid.out ?_)
  refine Lib.hid ?_
  have hm1 : Hid (m1 = n) := by unfold Hid; rw [own1.1]; exact HK.out
  have hm1b : m1 ≤ 20000 := by have := hm1.out; omega
  go_wp2_with (at_builtin; refine wpList_append_new rfl _ _ rfl w.heap.size a1 m1 k1 _ rfl own1 [_, _, _, _, _] 5 rfl marks5 rfl rfl (by omega) hb1.size ?_; intro a6 m6 k6 w6 own6 hb6; refine Hid.out ?_)
  refine Lib.hid ?_
  have B6 := hb1.trans hb6
  have hm6 : Hid (m6 = n + 5) := by unfold Hid; rw [own6.1, List.length_append, ← own1.1, hm1.out]; rfl
  clear own1 hb1 hb6
  go_wp2
  go_loopw [3, 4] (fun s i wr => ∃ t a m c, t ≤ 70 ∧ i = .int .i64 ((t : Nat) : Int) ∧ s = .slice a m c ∧ Own wr w.heap.size (.slice a m c) m ((bs ++ marks5) ++ List.replicate t 206) ∧ Below w.heap.size w wr) (fun _ i _ => 70 - (intOf i).toNat)
  case atStart => exact ⟨0, a6, m6, k6, by omega, rfl, rfl, by simpa using own6, B6⟩
  case round =>
    obtain ⟨t, a7, m7, k7, ht, rfl, rfl, own7, B7⟩ := hrel
    have hm7 : Hid (m7 = n + 5 + t) := by unfold Hid; rw [own7.1, List.length_append, List.length_append, HK.out, List.length_replicate]; rfl
    have hm7b : m7 ≤ 20100 := by have := hm7.out; omega
    by_cases hlt : t < 70
    · have hlt' : (t : Int) < 70 := by omega
      go_wp2_with (at_builtin; refine wpList_append_new rfl _ _ rfl w.heap.size a7 m7 k7 _ rfl own7 [_] 1 rfl [206] rfl rfl (by omega) B7.size ?_; intro a8 m8 k8 w8 own8 hb8)
      go_roundw
      case rel => exact ⟨t + 1, a8, m8, k8, by omega, by go_num, rfl, by rw [List.append_assoc, ← List.replicate_succ'] at own8; exact own8, B7.trans hb8⟩
      case measure => simp [intOf]; omega
    · have hge : (70 : Int) ≤ (t : Int) := by omega
      obtain rfl : t = 70 := by omega
      obtain ⟨g, he, hc1, hc2⟩ : ∃ g, a7 = some ⟨g, 0, none⟩ ∧ m7 ≤ k7 ∧ k7 ≤ maxLen := by
        rcases own7.2.2 with ⟨h1, h2⟩ | ⟨g, cp, cur, h1, h2, h3, h4, h5, h6⟩
        · have := hm7.out; omega
        · simp only [Value.slice.injEq] at h1
          exact ⟨g, h1.1, by omega, by omega⟩
      subst he
      have j1 : (n : Int) ≤ (k7 : Int) := by have := hm7.out; omega
      have j2 : (0 : Int) ≤ (n : Int) := by omega
      go_wp2
      go_ret
      refine ⟨_, rfl, ?_, B7⟩
      have e7 : m7 = (bs).length + 75 := by rw [hm7.out, HK.out]
      subst e7
      refine ⟨g, k7, by rw [HK.out]; simp, by omega, hc2, own7⟩

theorem laid8_any {v : Value} {bs : List Nat} {w : World} (hr : Rd w v bs) :
    Calls Try.prog 47 #[v] w fun e w' => ∃ u, e = .returned u ∧ Laid w' w.heap.size u (bs.take 5000) ∧ Below w.heap.size w w' := by
  obtain ⟨a, n, cap, rfl⟩ := rd_slice hr
  by_cases h : 5000 < n
  · exact laid8_cut hr h
  · have e : bs.take 5000 = bs := List.take_of_length_le (by rw [← (rd_lens hr).1]; omega)
    rw [e]
    exact laid8_whole hr (by omega)

set_option maxRecDepth 100000 in
set_option maxHeartbeats 1000000 in
theorem intact8_any {u v : Value} {B : Nat} {bs : List Nat} {w : World} (hl : Laid w B u bs) (hv : Rd w v bs) (h20 : bs.length ≤ 20000) :
    Calls Try.prog 52 #[u, v] w fun e w' => e = .returned (.bool true) ∧ Below w.heap.size w w' := by
  have ru := hl.rd hv.1 (by omega)
  obtain ⟨g, c, rfl, h2, h3, h4⟩ := hl
  have rall := Laid.all h4 hv.1 (by omega)
  obtain ⟨a, n, cap, rfl⟩ := rd_slice hv
  have hn : n = bs.length := (rd_lens hv).1
  have HM : Hid (∀ w', Below w.heap.size w w' → Rd w' (.slice (some ⟨g, n, none⟩) 5 (c - n)) marks5) := fun w' hb => by
    have r1 := ((rall.later hb).upto (bs.length + 5) (by omega)).past bs.length (by omega) (off' := n) (n' := 5) (cap' := c - n) (by omega) (by omega) (by omega)
    have e : (((bs ++ marks5) ++ List.replicate 70 206).take (bs.length + 5)).drop bs.length = marks5 := by
      have e1 : (((bs ++ marks5) ++ List.replicate 70 206).take (bs.length + 5)) = bs ++ marks5 := by
        rw [List.take_append_of_le_length (by simp [marks5]), List.take_of_length_le (by simp [marks5])]
      rw [e1, List.drop_left]
    rw [e] at r1
    exact r1
  have HN : Hid (n = bs.length) := hn
  have q1 : ((n : Int) + 5 ≤ (c : Int)) := by omega
  have q2 : (0 : Int) ≤ (n : Int) := by omega
  have q3 : (n : Int) ≤ 20000 := by omega
  rw [← hn] at ru ⊢
  clear h4 rall hn
  go_enter Try.func52, Try.ntmps52
  go_wp2_with fail
  refine (same8_true ru hv).mono ?_
  rintro e w1 ⟨rfl, hb1⟩
  have hb2 := hb1.trans (((Below.refl w1.heap.size w1).alloc (Nat.le_refl _) (.cells (bv marks5).toArray 5)).mono hb1.size)
  have rm : Rd (w1.alloc (.cells (bv marks5).toArray 5)) (.slice (some ⟨w1.heap.size, 0, none⟩) 5 5) marks5 := by
    have o : Own (w1.alloc (.cells (bv marks5).toArray 5)) w1.heap.size (.slice (some ⟨w1.heap.size, 0, none⟩) 5 5) 5 marks5 := ⟨rfl, rfl, .inr ⟨w1.heap.size, 5, (bv marks5).toArray, rfl, Nat.le_refl _, heap_new w1 _, Nat.le_refl _, by decide, rfl, rfl⟩⟩
    exact o.rd marks5_bys (by decide)
  have rm2 := HM.out _ hb2
  have HRM : Hid (_ ∧ _ ∧ _) := ⟨rm, rm2, hb2⟩
  clear rm rm2 hb2 HM
  simp only [bv, marks5, List.map_cons, List.map_nil] at HRM
  go_wp2_with fail
  refine (same8_true HRM.out.2.1 HRM.out.1).mono ?_
  rintro e w3 ⟨rfl, hb3⟩
  go_wp2
  go_ret
  exact ⟨rfl, HRM.out.2.2.trans (hb3.mono HRM.out.2.2.size)⟩
set_option maxRecDepth 100000 in
set_option maxHeartbeats 4000000 in
theorem entry8_any {e : EntD} {w : World} (hok : EntD.Ok w e) :
    Calls Try.prog 20 #[.agg e.cells] w fun r w' => ∃ D : EntD, r = .returned (.agg D.cells) ∧ EntD.Same D e.cut ∧ LaidE w' w.heap.size D ∧ Below w.heap.size w w' ∧ ApE D := by
  have A0 := (Below.refl w.heap.size w).alloc (Nat.le_refl _) (.cells e.cells 30)
  have A1 := A0.alloc A0.size (.cells zeroD.cells 30)
  have bx1 : Hid (EBox ((w.alloc (.cells e.cells 30)).alloc (.cells zeroD.cells 30)) w.heap.size e) := (EBox.new w e).later ((Below.refl _ _).alloc (Nat.le_refl _) _)
  have bg0 := EBox.new (w.alloc (.cells e.cells 30)) zeroD
  rw [World.size_alloc] at bg0
  have bg1 := Lib.hid bg0
  have HK : Hid (EntD.Ok w e) := hok
  clear hok bg0 A0
  obtain ⟨vr, fam, vq, ts, seq, kind, vv, row, qual, val⟩ := e
  simp only [EntD.cells, zeroD] at *
  go_enter Try.func20, Try.ntmps20
  go_wp2_with fail
  refine (laid8_any (HK.out.1.later A1)).mono ?_
  rintro q w1 ⟨u1, rfl, l1, hb1⟩
  obtain ⟨a1, n1, k1, rfl⟩ := l1.form
  have hs1 : w.heap.size + 2 ≤ w1.heap.size := by have := hb1.size; simpa using this
  have B1 := (A1.trans (hb1.mono A1.size)).setCell (p := ⟨w.heap.size, 0, none⟩) (Nat.le_refl _) (.slice a1 n1 k1)
  have bx2 := bx1.out.later hb1
  have c0 := bx2.vr
  have f0 := bx2.fz 0
  have bx3 := bx2.set0 (.slice a1 n1 k1) (row.take 5000)
  have x2 := bx3.vq
  simp only at x2 c0
  have L1 : Hid (Laid (w1.setCell ⟨w.heap.size, 0, none⟩ (.slice a1 n1 k1)) (w.heap.size + 2) (.slice a1 n1 k1) (row.take 5000)) := (by have := l1; simp at this; exact this : Laid w1 (w.heap.size + 2) (.slice a1 n1 k1) (row.take 5000)).put (by omega)
  have HX3 := Lib.hid bx3
  have GA : Hid (∀ g, (Value.slice a1 n1 k1).ownBlock = some g → g < w1.heap.size) := fun g hg => (l1.own_lt g hg).2
  have bg2 := Lib.hid ((bg1.out.later hb1).apart (apart_set w1 w.heap.size 0 (.slice a1 n1 k1)) (by omega))
  clear l1 hb1 A1 bx1 bx2 bx3 bg1
  go_wp2_with fail
  refine (laid8_any (HK.out.2.1.later B1)).mono ?_
  rintro q w2 ⟨u2, rfl, l2, hb2⟩
  obtain ⟨a2, n2, k2, rfl⟩ := l2.form
  have hs2 : w.heap.size + 2 ≤ w2.heap.size := Nat.le_trans (by simpa using hs1) hb2.size
  have hsz2 : Hid (w1.heap.size ≤ w2.heap.size) := by unfold Hid; have := hb2.size; simpa using this
  have B2 := (B1.trans (hb2.mono B1.size)).setCell (p := ⟨w.heap.size, 2, none⟩) (Nat.le_refl _) (.slice a2 n2 k2)
  have bx4 := HX3.out.later hb2
  have c2 := bx4.vq
  have f2 := bx4.fz 2
  have bx5 := bx4.set2 (.slice a2 n2 k2) (qual.take 5000)
  have x6 := bx5.vv
  simp only at x6 c2
  have L2 : Hid (Laid (w2.setCell ⟨w.heap.size, 2, none⟩ (.slice a2 n2 k2)) (w.heap.size + 2) (.slice a1 n1 k1) (row.take 5000) ∧ Laid (w2.setCell ⟨w.heap.size, 2, none⟩ (.slice a2 n2 k2)) (w.heap.size + 2) (.slice a2 n2 k2) (qual.take 5000)) := ⟨(L1.out.later hb2).put (by omega), (l2.mono (by simpa using hs1)).put (by omega)⟩
  have HX5 := Lib.hid bx5
  have GB : Hid (∀ g, (Value.slice a2 n2 k2).ownBlock = some g → w1.heap.size ≤ g ∧ g < w2.heap.size) := fun g hg => by have := l2.own_lt g hg; simpa using this
  have bg3 := Lib.hid ((bg2.out.later hb2).apart (apart_set w2 w.heap.size 2 (.slice a2 n2 k2)) (by omega))
  clear l2 hb2 bx4 bx5 HX3 L1 c0 f0 x2 B1 bg2
  go_wp2_with fail
  refine (laid8_any (HK.out.2.2.later B2)).mono ?_
  rintro q w3 ⟨u3, rfl, l3, hb3⟩
  obtain ⟨a3, n3, k3, rfl⟩ := l3.form
  have B3 := (B2.trans (hb3.mono B2.size)).setCell (p := ⟨w.heap.size, 6, none⟩) (Nat.le_refl _) (.slice a3 n3 k3)
  have bx6 := HX5.out.later hb3
  have bx7 := bx6.set6 (.slice a3 n3 k3) (val.take 5000)
  have L3 : Laid (w3.setCell ⟨w.heap.size, 6, none⟩ (.slice a3 n3 k3)) (w.heap.size + 2) (.slice a1 n1 k1) (row.take 5000) ∧ Laid (w3.setCell ⟨w.heap.size, 6, none⟩ (.slice a3 n3 k3)) (w.heap.size + 2) (.slice a2 n2 k2) (qual.take 5000) ∧ Laid (w3.setCell ⟨w.heap.size, 6, none⟩ (.slice a3 n3 k3)) (w.heap.size + 2) (.slice a3 n3 k3) (val.take 5000) := ⟨(L2.out.1.later hb3).put (by omega), (L2.out.2.later hb3).put (by omega), (l3.mono (by simpa using hs2)).put (by omega)⟩
  have bg4 := (bg3.out.later hb3).apart (apart_set w3 w.heap.size 6 (.slice a3 n3 k3)) (by omega)
  have GC : Hid (∀ g, (Value.slice a3 n3 k3).ownBlock = some g → w2.heap.size ≤ g) := fun g hg => by have := (l3.own_lt g hg).1; simpa using this
  have GS : Hid (w1.heap.size ≤ w2.heap.size) := by unfold Hid; have := hsz2.out; exact this
  obtain ⟨D, hD⟩ : ∃ D : EntD, D = ⟨(.slice a1 n1 k1), fam, (.slice a2 n2 k2), ts, seq, kind, (.slice a3 n3 k3), row.take 5000, qual.take 5000, val.take 5000⟩ := ⟨_, rfl⟩
  have fb := filled_box bg4 D
  have bw := B3.trans ((filled_apart (w3.setCell ⟨w.heap.size, 6, none⟩ (.slice a3 n3 k3)) (w.heap.size + 1) D).below (by omega) B3.size)
  have L4 : Laid (filled (w3.setCell ⟨w.heap.size, 6, none⟩ (.slice a3 n3 k3)) (w.heap.size + 1) D) (w.heap.size + 2) (.slice a1 n1 k1) (row.take 5000) ∧ Laid (filled (w3.setCell ⟨w.heap.size, 6, none⟩ (.slice a3 n3 k3)) (w.heap.size + 1) D) (w.heap.size + 2) (.slice a2 n2 k2) (qual.take 5000) ∧ Laid (filled (w3.setCell ⟨w.heap.size, 6, none⟩ (.slice a3 n3 k3)) (w.heap.size + 1) D) (w.heap.size + 2) (.slice a3 n3 k3) (val.take 5000) := ⟨L3.1.fill (by omega), L3.2.1.fill (by omega), L3.2.2.fill (by omega)⟩
  rw [hD] at fb bw L4
  have HDN : Hid (_ ∧ _ ∧ _) := ⟨fb, bw, L4⟩
  obtain ⟨z0, z1, z2, z3, z4, z5, z6⟩ := bx6.cells7
  obtain ⟨zf0, zf1, zf2, zf3, zf4, zf5, zf6⟩ := bx6.fz7
  obtain ⟨y0, y1, y2, y3, y4, y5, y6⟩ := bx7.cells7
  obtain ⟨g0, g1, g2, g3, g4, g5, g6⟩ := bg4.cells7
  obtain ⟨gf0, gf1, gf2, gf3, gf4, gf5, gf6⟩ := bg4.fz7
  simp only at y0 y1 y2 y3 y4 y5 y6 g0 g1 g2 g3 g4 g5 g6 z6
  clear l3 hb3 bx6 bx7 HX5 L2 L3 L4 c2 f2 x6 B2 B3 fb bw bg4 bg3 hD z0 z1 z2 z3 z4 z5
  simp only [filled] at HDN
  go_wp2
  obtain ⟨fb, bw, L4⟩ := HDN.out
  clear HDN
  generalize ((((((((w3.setCell ⟨w.heap.size, 6, none⟩ (.slice a3 n3 k3)).setCell ⟨w.heap.size + 1, 0, none⟩ (.slice a1 n1 k1)).setCell ⟨w.heap.size + 1, 1, none⟩ (.int .i64 fam)).setCell ⟨w.heap.size + 1, 2, none⟩ (.slice a2 n2 k2)).setCell ⟨w.heap.size + 1, 3, none⟩ (.int .i64 ts)).setCell ⟨w.heap.size + 1, 4, none⟩ (.int .i64 seq)).setCell ⟨w.heap.size + 1, 5, none⟩ (.int .i64 kind)).setCell ⟨w.heap.size + 1, 6, none⟩ (.slice a3 n3 k3)) = wz at fb bw L4 ⊢
  obtain ⟨t0, t1, t2, t3, t4, t5, t6⟩ := fb.cells7
  simp only at t0 t1 t2 t3 t4 t5 t6
  (try simp only [Exit.inBlock, Exit.then])
  refine bodyPost_ret (v := .agg #[(.slice a1 n1 k1), .int .i64 fam, (.slice a2 n2 k2), .int .i64 ts, .int .i64 seq, .int .i64 kind, (.slice a3 n3 k3)]) ?hres rfl ?_
  case hres => simp [results, Try.results20, go_sem, t0, t1, t2, t3, t4, t5, t6]
  exact ⟨⟨(.slice a1 n1 k1), fam, (.slice a2 n2 k2), ts, seq, kind, (.slice a3 n3 k3), row.take 5000, qual.take 5000, val.take 5000⟩, rfl, ⟨rfl, rfl, rfl, rfl, rfl, rfl, rfl⟩, LaidE.mono ⟨L4.1, L4.2.1, L4.2.2⟩ (by omega), bw, ⟨fun g hg h => by have h1 := GA.out g hg; have h2 := (GB.out g h).1; omega, fun g hg h => by have h1 := GA.out g hg; have h2 := GC.out g h; have := GS.out; omega, fun g hg h => by have h1 := (GB.out g hg).2; have h2 := GC.out g h; omega⟩⟩


set_option maxRecDepth 100000 in
set_option maxHeartbeats 4000000 in
theorem stands8_any {a b : EntD} {B : Nat} {w : World} (ha : LaidE w B a) (hb : EntD.Ok w b) (h : EntD.Same a b) (hf : EntD.Fine a) :
    Calls Try.prog 28 #[.agg a.cells, .agg b.cells] w fun r w' => r = .returned (.bool true) ∧ Below w.heap.size w w' := by
  have A1 := (Below.refl w.heap.size w).alloc (Nat.le_refl _) (.cells a.cells 30)
  have A2 := A1.alloc A1.size (.cells b.cells 30)
  have bxa0 := (EBox.new w a).later ((Below.refl (w.alloc (.cells a.cells 30)).heap.size (w.alloc (.cells a.cells 30))).alloc (Nat.le_refl _) (.cells b.cells 30))
  have bxb0 := EBox.new (w.alloc (.cells a.cells 30)) b
  rw [World.size_alloc] at bxb0
  have HX : Hid (EBox _ w.heap.size a ∧ EBox _ (w.heap.size + 1) b ∧ Below w.heap.size w _) := ⟨bxa0, bxb0, A2⟩
  have HA : Hid (LaidE w B a) := ha
  have HB : Hid (EntD.Ok w b) := hb
  have HF : Hid (EntD.Fine a) := hf
  clear A1 A2 bxa0 bxb0 ha hb hf
  obtain ⟨e1, e2, e3, e4, e5, e6, e7⟩ := h
  obtain ⟨va, fa, qa, ta, sa, ka, wa, ra, la, ya⟩ := a
  obtain ⟨vb, fb, qb, tb, sb, kb, wb, rb, lb, yb⟩ := b
  simp only at e1 e2 e3 e4 e5 e6 e7
  subst e1 e2 e3 e4 e5 e6 e7
  simp only [EntD.cells] at *
  go_enter Try.func28, Try.ntmps28
  go_wp2_with fail
  refine (intact8_any (HA.out.1.later HX.out.2.2) (HB.out.1.later HX.out.2.2) (by have := HF.out.1.2; simp only at this ⊢; omega)).mono ?_
  rintro e w1 ⟨rfl, hb1⟩
  have B1 := HX.out.2.2.trans (hb1.mono HX.out.2.2.size)
  have bxa1 : Hid (EBox w1 w.heap.size _) := HX.out.1.later hb1
  have bxb1 : Hid (EBox w1 (w.heap.size + 1) _) := HX.out.2.1.later hb1
  have x2 := bxa1.out.vq
  have y2 := bxb1.out.vq
  simp only at x2 y2
  clear HX hb1
  go_wp2_with fail
  refine (intact8_any (HA.out.2.1.later B1) (HB.out.2.1.later B1) (by have := HF.out.2.1.2; simp only at this ⊢; omega)).mono ?_
  rintro e w2 ⟨rfl, hb2⟩
  have B2 := B1.trans (hb2.mono B1.size)
  have x6 := (bxa1.out.later hb2).vv
  have y6 := (bxb1.out.later hb2).vv
  simp only at x6 y6
  clear hb2 bxa1 bxb1 x2 y2 B1
  go_wp2_with fail
  refine (intact8_any (HA.out.2.2.later B2) (HB.out.2.2.later B2) (by have := HF.out.2.2.2; simp only at this ⊢; omega)).mono ?_
  rintro e w3 ⟨rfl, hb3⟩
  go_wp2
  go_ret
  exact ⟨rfl, B2.trans (hb3.mono B2.size)⟩

end Go.Proofs.Ytnjopfdeapclhaa

namespace Go.Proofs.Ytnjopfdeapclhaa
open Go.RowKit
set_option linter.unusedVariables false

/-- A row of byte strings that is owned. -/
def RowS (w : World) (B : Nat) (v : Value) (n : Nat) (vs : List Value) : Prop := n = vs.length ∧ (∀ u ∈ vs, u.oneCell' = true) ∧ w.ownsRow B 28 1 v n vs
theorem RowS.later {w w' : World} {B n : Nat} {v : Value} {vs : List Value} (h : RowS w B v n vs) (hb : Below w.heap.size w w') : RowS w' B v n vs := by
  refine ⟨h.1, h.2.1, h.2.2.1, ?_⟩
  rcases h.2.2.2 with h2 | ⟨g, cap, cur, h3, h4, h5, h6⟩
  · exact .inl h2
  · exact .inr ⟨g, cap, cur, h3, h4, by rw [hb.block g (Array.getElem?_eq_some_iff.1 h5).1]; exact h5, h6⟩
theorem rows_form {w : World} {B n : Nat} {v : Value} {xs : List Value} (h : w.ownsRow B 28 1 v n xs) : ∃ a c, v = .slice a n c := by
  rcases h.2 with ⟨rfl, rfl⟩ | ⟨g, cap, cur, rfl, _⟩
  · exact ⟨_, _, rfl⟩
  · exact ⟨_, _, rfl⟩
theorem info_parts1 : (Try.prog.info? 28).map (fun i => (i.zero, i.size, i.bytes)) = some (some (.slice none 0 0), 1, 24) := by kernel_rfl
/-- append of one byte string to a row that is owned: all that is wanted of it. -/
theorem append_row {w : World} {B n : Nat} {v u : Value} {vs : List Value} (ty : TypeId) (hown : RowS w B v n vs) (hu : u.oneCell' = true) (hbytes : n + 1 ≤ 1000000) (hB : B ≤ w.heap.size) :
    ∃ v' w', (Builtin.append_ #[49, 49] ty #[v, .slice (some ⟨w.heap.size, 0, none⟩) 1 1]).run Try.prog (w.alloc (.cells #[u] 28)) = .ok v' w' ∧ RowS w' B v' (n + 1) (vs ++ [u]) ∧ w.grownBy w' v.ownBlock ∧ (v'.ownBlock = v.ownBlock ∨ ∀ g, v'.ownBlock = some g → w.heap.size ≤ g) := by
  obtain ⟨i0, hi, hz0, hz1, hz2⟩ := info_parts info_parts1
  obtain ⟨W, hW⟩ : ∃ W, W = w.alloc (.cells #[u] 28) := ⟨_, rfl⟩
  have hsW : W.heap.size = w.heap.size + 1 := by rw [hW]; simp
  have hnews : ∀ j x, ([u] : List Value)[j]? = some x → W.cell? ((⟨w.heap.size, 0, none⟩ : Addr).add j) = some x := by
    intro j x hj
    have hh : W.heap[w.heap.size]? = some (.cells #[u] 28) := by rw [hW]; exact heap_new w _
    cases j with
    | zero =>
      simp at hj
      subst hj
      simp [World.cell?, Addr.add, hh]
    | succ j => simp at hj
  have hownW : W.ownsRow B 28 1 v n vs := by rw [hW]; exact hown.2.2.alloc _
  have h1 : ∀ x ∈ ([u] : List Value), x.oneCell' = true := by intro x hx; simp at hx; subst hx; exact hu
  obtain ⟨v', w', hr, h2, h3, _⟩ := run_append_own (P := Try.prog) W B 49 ty 28 i0 (.slice none 0 0) 1 24 und_parts hi hz0 hz1 hz2 rfl (by decide) v n vs hownW ⟨w.heap.size, 0, none⟩ 1 1 [u] (by simp) hnews h1 (by unfold maxLen; omega) (by omega) (by omega)
  have o2 : RowS w' B v' (n + 1) (vs ++ [u]) := ⟨by rw [hown.1]; simp, fun x hx => by rcases List.mem_append.1 hx with h | h; exact hown.2.1 x h; exact h1 x h, h2⟩
  have g2 : w.grownBy w' v.ownBlock := grown_trans (by rw [hW]; exact grown_alloc w _ _) h3 (.inl rfl)
  rw [hW] at hr
  refine ⟨v', w', hr, o2, g2, ?_⟩
  rw [← hW] at hr
  rcases hownW.2 with ⟨rfl, h0⟩ | ⟨g, cap, cur, rfl, hg1, hg2, hg3, hg4, hg5, hg6⟩
  · subst h0
    have hr2 := run_append_nil (P := Try.prog) W 49 ty 28 i0 (.slice none 0 0) und_parts hi hz0 ⟨w.heap.size, 0, none⟩ 1 1 [u] (by rw [hz1]; simp) hnews (by decide) (by decide) (by rw [hz2]; decide)
    rw [hr] at hr2
    injection hr2 with e1 e2
    subst e1
    refine .inr fun g hg => ?_
    simp [Value.ownBlock] at hg
    omega
  · by_cases hroom : n + 1 ≤ cap
    · obtain ⟨w2, hr2, k2, _⟩ := run_append_own_spare (P := Try.prog) W B 49 ty 28 i0 1 und_parts hi hz1 g n cap vs hownW ⟨w.heap.size, 0, none⟩ 1 1 [u] (by simp) hnews h1 hroom
      rw [hr] at hr2
      injection hr2 with e1 e2
      subst e1
      exact .inl rfl
    · have holds : ∀ j x, vs[j]? = some x → W.cell? ((⟨g, 0, none⟩ : Addr).add j) = some x := hownW.cells (g := g) rfl
      have hr2 := run_append_grow (P := Try.prog) W 49 ty 28 i0 (.slice none 0 0) und_parts hi hz0 ⟨g, 0, none⟩ n cap vs (by rw [hz1, ← hown.1]; omega) holds ⟨w.heap.size, 0, none⟩ 1 1 [u] (by rw [hz1]; simp) hnews (by omega) (by omega) (by rw [hz2]; exact growslice_fits (by omega) (by omega))
      rw [hr] at hr2
      injection hr2 with e1 e2
      subst e1
      refine .inr fun x hx => ?_
      simp [Value.ownBlock] at hx
      omega
theorem wpList_append_one {w : World} {ops : Array Oper} {rest : List Oper} {o : Oper} {a : Act} {Q : Exit → Act → World → Prop} (hgd : o.guard = none) (s x : Operand)
    (ho : o.op = .call { callee := .builtin .append, args := #[s, x], argTypes := #[49, 49] })
    (B : Nat) (a0 : Option Addr) (m0 c0 : Nat) (vs : List Value) (hs : a.eval s = .slice a0 m0 c0) (hown : RowS w B (.slice a0 m0 c0) m0 vs)
    (u : Value) (hu : u.oneCell' = true) (hx : a.eval x = .slice (some ⟨w.heap.size, 0, none⟩) 1 1)
    (hbytes : m0 + 1 ≤ 1000000) (hB : B ≤ w.heap.size)
    (h : ∀ a' c' w', RowS w' B (.slice a' (m0 + 1) c') (m0 + 1) (vs ++ [u]) → w.grownBy w' (Value.slice a0 m0 c0).ownBlock → ((Value.slice a' (m0 + 1) c').ownBlock = (Value.slice a0 m0 c0).ownBlock ∨ ∀ g, (Value.slice a' (m0 + 1) c').ownBlock = some g → w.heap.size ≤ g) → wpList Try.prog ops Q rest (a.put o.dst (.slice a' (m0 + 1) c')) w') : wpList Try.prog ops Q (o :: rest) a (w.alloc (.cells #[u] 28)) := by
  obtain ⟨v', w', hr, h1, h2, h3⟩ := append_row o.type hown hu hbytes hB
  obtain ⟨a', c', rfl⟩ := rows_form h1.2.2
  refine wpList_plain hgd fun K hK => ?_
  unfold Oper.wp execOp
  simp only [ho, resolve, invoke, builtin, Sem.run_bind, Sem.run_pure, Result.andThen_ok, List.map_toArray, List.map_cons, List.map_nil, hs, hx, hr]
  exact hK _ _ (h a' c' w' h1 h2 h3)
end Go.Proofs.Ytnjopfdeapclhaa

namespace Go.Proofs.Ytnjopfdeapclhaa
open Go.RowKit
set_option linter.unusedVariables false

/-- A book's box: the list, and what its items held. -/
def KBox (w : World) (g : Nat) (vL vW : Value) : Prop := w.heap[g]? = some (.cells #[vL, vW] 51 (0, 0))
theorem KBox.later {w w' : World} {g : Nat} {vL vW : Value} (h : KBox w g vL vW) (hb : Below w.heap.size w w') : KBox w' g vL vW := by
  unfold KBox at *
  rw [hb.block g (Array.getElem?_eq_some_iff.1 h).1]; exact h
theorem KBox.l {w : World} {g : Nat} {vL vW : Value} (h : KBox w g vL vW) : w.cell? ⟨g, 0, none⟩ = some vL := by unfold KBox at h; simp [World.cell?, h]
theorem KBox.w {w : World} {g : Nat} {vL vW : Value} (h : KBox w g vL vW) : w.cell? ⟨g, 1, none⟩ = some vW := by unfold KBox at h; simp [World.cell?, h]
theorem KBox.fz {w : World} {g : Nat} {vL vW : Value} (h : KBox w g vL vW) (i : Nat) : w.frozen? ⟨g, i, none⟩ = false := by unfold KBox at h; simp [World.frozen?, h]
theorem KBox.setL {w : World} {g : Nat} {vL vW : Value} (h : KBox w g vL vW) (x : Value) : KBox (w.setCell ⟨g, 0, none⟩ x) g x vW := by
  unfold KBox at *; simp [World.setCell, Array.getElem?_modify, h]
theorem KBox.setW {w : World} {g : Nat} {vL vW : Value} (h : KBox w g vL vW) (x : Value) : KBox (w.setCell ⟨g, 1, none⟩ x) g vL x := by
  unfold KBox at *; simp [World.setCell, Array.getElem?_modify, h]
theorem KBox.far {w w' : World} {g : Nat} {vL vW : Value} {o : Option Nat} (h : KBox w g vL vW) (k : w.grownBy w' o) (hne : ∀ x, o = some x → g ≠ x) : KBox w' g vL vW := by
  unfold KBox at *
  rw [k.block g (Array.getElem?_eq_some_iff.1 h).1 (fun e => hne g e.symm rfl)]
  exact h
/-- A box is no block of bytes, nor of a row; a row is no block of bytes. -/
theorem kbox_own {w : World} {B m g x : Nat} {v vL vW : Value} {xs : List Nat} (h : KBox w g vL vW) (o : Own w B v m xs) (hx : v.ownBlock = some x) : g ≠ x := by
  rintro rfl
  rcases o.2.2 with ⟨h1, _⟩ | ⟨g2, cap, cur, h3, _, h5, _⟩
  · rw [h1] at hx; cases hx
  · rw [h3] at hx
    simp only [Value.ownBlock, Option.some.injEq] at hx
    subst hx
    unfold KBox at h
    rw [h5] at h
    simp at h
theorem kbox_row {w : World} {B m g x : Nat} {v vL vW : Value} {vs : List Value} (h : KBox w g vL vW) (o : RowS w B v m vs) (hx : v.ownBlock = some x) : g ≠ x := by
  rintro rfl
  rcases o.2.2.2 with ⟨h1, _⟩ | ⟨g2, cap, cur, h3, _, h5, _⟩
  · rw [h1] at hx; cases hx
  · rw [h3] at hx
    simp only [Value.ownBlock, Option.some.injEq] at hx
    subst hx
    unfold KBox at h
    rw [h5] at h
    simp at h
theorem row_own {w : World} {B B' m n g : Nat} {u v : Value} {vs : List Value} {xs : List Nat} (h : RowS w B u m vs) (o : Own w B' v n xs) (hu : u.ownBlock = some g) : v.ownBlock ≠ some g := by
  intro hv
  rcases h.2.2.2 with ⟨h1, _⟩ | ⟨g2, cap, cur, h3, _, h5, _⟩
  · rw [h1] at hu; cases hu
  · rcases o.2.2 with ⟨k1, _⟩ | ⟨g4, cap4, cur4, k3, _, k5, _⟩
    · rw [k1] at hv; cases hv
    · rw [h3] at hu
      rw [k3] at hv
      simp only [Value.ownBlock, Option.some.injEq] at hu hv
      subst hu hv
      rw [h5] at k5
      simp at k5
theorem RowS.far {w w' : World} {B m : Nat} {v : Value} {o : Option Nat} {vs : List Value} (h : RowS w B v m vs) (k : w.grownBy w' o) (hne : ∀ g, o = some g → v.ownBlock ≠ some g) : RowS w' B v m vs := by
  refine ⟨h.1, h.2.1, h.2.2.1, ?_⟩
  rcases h.2.2.2 with h2 | ⟨g, cap, cur, h3, h4, h5, h6⟩
  · exact .inl h2
  · refine .inr ⟨g, cap, cur, h3, h4, ?_, h6⟩
    rw [k.block g (Array.getElem?_eq_some_iff.1 h5).1 ?_]
    · exact h5
    · intro e
      exact hne g e.symm (by rw [h3]; rfl)
theorem set_grown (w : World) (g i : Nat) (x : Value) : w.grownBy (w.setCell ⟨g, i, none⟩ x) (some g) := by
  have a := apart_set w g i x
  exact ⟨a.os, a.tape, a.output, a.size, fun j hj hne => a.block j hj (fun e => hne (by rw [e]))⟩

end Go.Proofs.Ytnjopfdeapclhaa

namespace Go.Proofs.Ytnjopfdeapclhaa
open Go.RowKit
set_option linter.unusedVariables false

theorem Within.from_ {D : EntD} {lo lo' hi : Nat} (h : Within D lo hi) (k : lo' ≤ lo) : Within D lo' hi := fun g hg => ⟨Nat.le_trans k (h g hg).1, (h g hg).2⟩
set_option maxRecDepth 100000 in
theorem wp_call_laid {a : Act} {w : World} {K : Act → World → Prop} {Q : Exit → Act → World → Prop} {d : Option Nat} {ps : String} {af : Array Edge} {x : Nat} {v : Value} {R : Ending → World → Prop} (hc : Calls Try.prog 47 #[v, .int .i64 ((5000 : Nat) : Int)] w R) (hx : a.tmps[x]?.getD undef = v) (h : ∀ r w', R r w' → ∃ u, r = .returned u ∧ K (a.put d u) w') :
    Oper.wp Try.prog { dst := d, op := Op.call { callee := Callee.value (Operand.func 47), args := #[Operand.tmp x, Operand.const (Value.int IntKind.i64 5000)], argTypes := #[28, 3] }, type := 28, pos := ps, after := af, guard := none } a w K Q := by
  go_simp
  refine hc.mono ?_
  intro r w' hr
  obtain ⟨u, rfl, hk⟩ := h r w' hr
  exact hk
set_option maxRecDepth 100000 in
theorem wp_call_copied {a : Act} {w : World} {K : Act → World → Prop} {Q : Exit → Act → World → Prop} {d : Option Nat} {ps : String} {af : Array Edge} {x : Nat} {v : Value} {R : Ending → World → Prop} (hc : Calls Try.prog 75 #[v] w R) (hx : a.tmps[x]?.getD undef = v) (h : ∀ r w', R r w' → ∃ u, r = .returned u ∧ K (a.put d u) w') :
    Oper.wp Try.prog { dst := d, op := Op.call { callee := Callee.value (Operand.func 75), args := #[Operand.tmp x], argTypes := #[28] }, type := 28, pos := ps, after := af, guard := none } a w K Q := by
  go_simp
  refine hc.mono ?_
  intro r w' hr
  obtain ⟨u, rfl, hk⟩ := h r w' hr
  exact hk
set_option maxRecDepth 100000 in
theorem wp_assign_tmp {a : Act} {w : World} {K : Act → World → Prop} {Q : Exit → Act → World → Prop} {d : Option Nat} {ps : String} {af : Array Edge} {x : Nat} {v : Value} (hx : a.tmps[x]?.getD undef = v) (h : K (a.put d v) w) :
    Oper.wp Try.prog { dst := d, op := Op.assign (Operand.tmp x), type := 28, pos := ps, after := af, guard := none } a w K Q := by
  go_simp
  exact h
set_option maxRecDepth 100000 in
theorem move_tmp {a : Act} {w : World} {x : Nat} {v : Value} {d : Option Nat} {ps : String} {af : Array Edge} (hx : a.tmps[x]?.getD undef = v) :
    (execOp a.eval { dst := d, op := Op.move (Operand.tmp x), type := 28, pos := ps, after := af, guard := none }).run Try.prog w = .ok (.value v) w := by
  go_simp
end Go.Proofs.Ytnjopfdeapclhaa
