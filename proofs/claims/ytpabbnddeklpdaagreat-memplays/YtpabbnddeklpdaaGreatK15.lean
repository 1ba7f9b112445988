import Derived.Test.YtpabbnddeklpdaaGreatK14
namespace Go.Proofs.YtpabbnddeklpdaaGreat
open Go.RowKit
set_option linter.unusedVariables false

theorem same8_true {va vb : Value} {xs : List Nat} {w : World} (ha : Rd w va xs) (hb : Rd w vb xs) :
  Calls Tryz.prog 35 #[va, vb] w fun e w' => e = .returned (.bool true) ∧ Below w.heap.size w w' := by
 refine (same8_any ha hb).mono ?_
 rintro e w' ⟨rfl, h⟩
 exact ⟨by simp, h⟩
set_option maxRecDepth 100000 in
set_option maxHeartbeats 2000000 in
theorem laid8_cut {a : Option Addr} {n cap : Nat} {bs : List Nat} {w : World} (hr : Rd w (.slice a n cap) bs) (hcut : 5000 < n) :
  Calls Tryz.prog 23 #[.slice a n cap] w fun e w' => ∃ u, e = .returned u ∧ Laid w' w.heap.size u (bs.take 5000) ∧ Below w.heap.size w w' := by
 obtain ⟨hn, hle, hm, hl48⟩ := rd_lens hr
 have hcut' : (5000 : Int) < (n : Int) := by omega
 rcases rd_some hr with ⟨_, h1, _⟩ | ⟨b, off, rfl⟩
 ·omega
 have r1 := hr.upto 5000 (by omega)
 have i1 : (5000 : Int) ≤ (cap : Int) := by omega
 have i2 : (0 : Int) ≤ (5000 : Int) := by omega
 have HK : Hid ((bs.take 5000).length = 5000) := by unfold Hid; rw [List.length_take]; omega
 clear hn hr
 go_enter Tryz.func23, Tryz.ntmps23
 go_wp2_with (at_builtin; refine wpList_append_at rfl _ _ rfl w.heap.size none 0 0 [] rfl ⟨rfl, World.ownsRow_nil _ _ _ _⟩ (some ⟨b, off, none⟩) 5000 cap (bs.take 5000) rfl r1 (by omega) (Nat.le_refl _) ?_; intro a1 m1 k1 w1 own1 hb1; rw [List.nil_append] at own1; refine Hid.out ?_)
 refine Lib.hid ?_
 have hm1 : Hid (m1 = 5000) := by unfold Hid; rw [own1.1]; exact HK.out
 have hm1b : m1 ≤ 20000 := by have := hm1.out; omega
 go_wp2_with (at_builtin; refine wpList_append_new rfl _ _ rfl w.heap.size a1 m1 k1 _ rfl own1 [_, _, _, _, _] 5 rfl marks5 rfl rfl (by omega) hb1.size ?_; intro a6 m6 k6 w6 own6 hb6; refine Hid.out ?_)
 refine Lib.hid ?_
 have B6 := hb1.trans hb6
 have hm6 : Hid (m6 = 5000 + 5) := by unfold Hid; rw [own6.1, List.length_append, ← own1.1, hm1.out]; rfl
 clear own1 hb1 hb6
 go_wp2
 go_loopw [3, 4] (fun s i wr => ∃ t a m c, t ≤ 70 ∧ i = .int .i64 ((t : Nat) : Int) ∧ s = .slice a m c ∧ Own wr w.heap.size (.slice a m c) m ((bs.take 5000 ++ marks5) ++ List.replicate t 206) ∧ Below w.heap.size w wr) (fun _ i _ => 70 - (intOf i).toNat)
 case atStart => exact ⟨0, a6, m6, k6, by omega, rfl, rfl, by simpa using own6, B6⟩
 case round =>
  obtain ⟨t, a7, m7, k7, ht, rfl, rfl, own7, B7⟩ := hrel
  have hm7 : Hid (m7 = 5000 + 5 + t) := by unfold Hid; rw [own7.1, List.length_append, List.length_append, HK.out, List.length_replicate]; rfl
  have hm7b : m7 ≤ 20100 := by have := hm7.out; omega
  by_cases hlt : t < 70
  ·have hlt' : (t : Int) < 70 := by omega
   go_wp2_with (at_builtin; refine wpList_append_new rfl _ _ rfl w.heap.size a7 m7 k7 _ rfl own7 [_] 1 rfl [206] rfl rfl (by omega) B7.size ?_; intro a8 m8 k8 w8 own8 hb8)
   go_roundw
   case rel => exact ⟨t + 1, a8, m8, k8, by omega, by go_num, rfl, by rw [List.append_assoc, ← List.replicate_succ'] at own8; exact own8, B7.trans hb8⟩
   case measure => simp [intOf]; omega
  ·have hge : (70 : Int) ≤ (t : Int) := by omega
   obtain rfl : t = 70 := by omega
   obtain ⟨g, he, hc1, hc2⟩ : ∃ g, a7 = some ⟨g, 0, none⟩ ∧ m7 ≤ k7 ∧ k7 ≤ maxLen := by
    rcases own7.2.2 with ⟨h1, h2⟩ | ⟨g, cp, cur, h1, h2, h3, h4, h5, h6⟩
    ·have := hm7.out; omega
    ·simp only [Value.slice.injEq] at h1
     exact ⟨g, h1.1, by omega, by omega⟩
   subst he
   have j1 : (5000 : Int) ≤ (k7 : Int) := by have := hm7.out; omega
   have j2 : (0 : Int) ≤ (5000 : Int) := by omega
   go_wp2
   go_ret
   refine ⟨_, rfl, ?_, B7⟩
   have e7 : m7 = (bs.take 5000).length + 75 := by rw [hm7.out, HK.out]
   subst e7
   refine ⟨g, k7, by rw [HK.out]; simp, by omega, hc2, own7⟩

set_option maxRecDepth 100000 in
set_option maxHeartbeats 2000000 in
theorem laid8_whole {a : Option Addr} {n cap : Nat} {bs : List Nat} {w : World} (hr : Rd w (.slice a n cap) bs) (hcut : n ≤ 5000) :
  Calls Tryz.prog 23 #[.slice a n cap] w fun e w' => ∃ u, e = .returned u ∧ Laid w' w.heap.size u bs ∧ Below w.heap.size w w' := by
 obtain ⟨hn, hle, hm, hl48⟩ := rd_lens hr
 have hcut' : (n : Int) ≤ (5000 : Int) := by omega
 have HK : Hid (bs.length = n) := hn.symm
 clear hn
 go_enter Tryz.func23, Tryz.ntmps23
 go_wp2_with (at_builtin; refine wpList_append_at rfl _ _ rfl w.heap.size none 0 0 [] rfl ⟨rfl, World.ownsRow_nil _ _ _ _⟩ a n cap bs rfl hr (by omega) (Nat.le_refl _) ?_; intro a1 m1 k1 w1 own1 hb1; rw [List.nil_append] at own1; refine Hid.out ?_)
 refine Lib.hid ?_
 have hm1 : Hid (m1 = n) := by unfold Hid; rw [own1.1]; exact HK.out
 have hm1b : m1 ≤ 20000 := by have := hm1.out; omega
 go_wp2_with (at_builtin; refine wpList_append_new rfl _ _ rfl w.heap.size a1 m1 k1 _ rfl own1 [_, _, _, _, _] 5 rfl marks5 rfl rfl (by omega) hb1.size ?_; intro a6 m6 k6 w6 own6 hb6; refine Hid.out ?_)
 refine Lib.hid ?_
 have B6 := hb1.trans hb6
 have hm6 : Hid (m6 = n + 5) := by unfold Hid; rw [own6.1, List.length_append, ← own1.1, hm1.out]; rfl
 clear own1 hb1 hb6
 go_wp2
 go_loopw [3, 4] (fun s i wr => ∃ t a m c, t ≤ 70 ∧ i = .int .i64 ((t : Nat) : Int) ∧ s = .slice a m c ∧ Own wr w.heap.size (.slice a m c) m ((bs ++ marks5) ++ List.replicate t 206) ∧ Below w.heap.size w wr) (fun _ i _ => 70 - (intOf i).toNat)
 case atStart => exact ⟨0, a6, m6, k6, by omega, rfl, rfl, by simpa using own6, B6⟩
 case round =>
  obtain ⟨t, a7, m7, k7, ht, rfl, rfl, own7, B7⟩ := hrel
  have hm7 : Hid (m7 = n + 5 + t) := by unfold Hid; rw [own7.1, List.length_append, List.length_append, HK.out, List.length_replicate]; rfl
  have hm7b : m7 ≤ 20100 := by have := hm7.out; omega
  by_cases hlt : t < 70
  ·have hlt' : (t : Int) < 70 := by omega
   go_wp2_with (at_builtin; refine wpList_append_new rfl _ _ rfl w.heap.size a7 m7 k7 _ rfl own7 [_] 1 rfl [206] rfl rfl (by omega) B7.size ?_; intro a8 m8 k8 w8 own8 hb8)
   go_roundw
   case rel => exact ⟨t + 1, a8, m8, k8, by omega, by go_num, rfl, by rw [List.append_assoc, ← List.replicate_succ'] at own8; exact own8, B7.trans hb8⟩
   case measure => simp [intOf]; omega
  ·have hge : (70 : Int) ≤ (t : Int) := by omega
   obtain rfl : t = 70 := by omega
   obtain ⟨g, he, hc1, hc2⟩ : ∃ g, a7 = some ⟨g, 0, none⟩ ∧ m7 ≤ k7 ∧ k7 ≤ maxLen := by
    rcases own7.2.2 with ⟨h1, h2⟩ | ⟨g, cp, cur, h1, h2, h3, h4, h5, h6⟩
    ·have := hm7.out; omega
    ·simp only [Value.slice.injEq] at h1
     exact ⟨g, h1.1, by omega, by omega⟩
   subst he
   have j1 : (n : Int) ≤ (k7 : Int) := by have := hm7.out; omega
   have j2 : (0 : Int) ≤ (n : Int) := by omega
   go_wp2
   go_ret
   refine ⟨_, rfl, ?_, B7⟩
   have e7 : m7 = (bs).length + 75 := by rw [hm7.out, HK.out]
   subst e7
   refine ⟨g, k7, by rw [HK.out]; simp, by omega, hc2, own7⟩

theorem laid8_any {v : Value} {bs : List Nat} {w : World} (hr : Rd w v bs) :
  Calls Tryz.prog 23 #[v] w fun e w' => ∃ u, e = .returned u ∧ Laid w' w.heap.size u (bs.take 5000) ∧ Below w.heap.size w w' := by
 obtain ⟨a, n, cap, rfl⟩ := rd_slice hr
 by_cases h : 5000 < n
 ·exact laid8_cut hr h
 ·have e : bs.take 5000 = bs := List.take_of_length_le (by rw [← (rd_lens hr).1]; omega)
  rw [e]
  exact laid8_whole hr (by omega)

set_option maxRecDepth 100000 in
set_option maxHeartbeats 1000000 in
theorem intact8_any {u v : Value} {B : Nat} {bs : List Nat} {w : World} (hl : Laid w B u bs) (hv : Rd w v bs) (h20 : bs.length ≤ 20000) :
  Calls Tryz.prog 70 #[u, v] w fun e w' => e = .returned (.bool true) ∧ Below w.heap.size w w' := by
 have ru := hl.rd hv.1 (by omega)
 obtain ⟨g, c, rfl, h2, h3, h4⟩ := hl
 have rall := Laid.all h4 hv.1 (by omega)
 obtain ⟨a, n, cap, rfl⟩ := rd_slice hv
 have hn : n = bs.length := (rd_lens hv).1
 have HM : Hid (∀ w', Below w.heap.size w w' → Rd w' (.slice (some ⟨g, n, none⟩) 5 (c - n)) marks5) := fun w' hb => by
  have r1 := ((rall.later hb).upto (bs.length + 5) (by omega)).past bs.length (by omega) (off' := n) (n' := 5) (cap' := c - n) (by omega) (by omega) (by omega)
  have e : (((bs ++ marks5) ++ List.replicate 70 206).take (bs.length + 5)).drop bs.length = marks5 := by
   have e1 : (((bs ++ marks5) ++ List.replicate 70 206).take (bs.length + 5)) = bs ++ marks5 := by
    rw [List.take_append_of_le_length (by simp [marks5]), List.take_of_length_le (by simp [marks5])]
   rw [e1, List.drop_left]
  rw [e] at r1
  exact r1
 have HN : Hid (n = bs.length) := hn
 have q1 : ((n : Int) + 5 ≤ (c : Int)) := by omega
 have q2 : (0 : Int) ≤ (n : Int) := by omega
 have q3 : (n : Int) ≤ 20000 := by omega
 rw [← hn] at ru ⊢
 clear h4 rall hn
 go_enter Tryz.func70, Tryz.ntmps70
 go_wp2_with fail
 refine (same8_true ru hv).mono ?_
 rintro e w1 ⟨rfl, hb1⟩
 have hb2 := hb1.trans (((Below.refl w1.heap.size w1).alloc (Nat.le_refl _) (.cells (bv marks5).toArray 5)).mono hb1.size)
 have rm : Rd (w1.alloc (.cells (bv marks5).toArray 5)) (.slice (some ⟨w1.heap.size, 0, none⟩) 5 5) marks5 := by
  have o : Own (w1.alloc (.cells (bv marks5).toArray 5)) w1.heap.size (.slice (some ⟨w1.heap.size, 0, none⟩) 5 5) 5 marks5 := ⟨rfl, rfl, .inr ⟨w1.heap.size, 5, (bv marks5).toArray, rfl, Nat.le_refl _, heap_new w1 _, Nat.le_refl _, by decide, rfl, rfl⟩⟩
  exact o.rd marks5_bys (by decide)
 have rm2 := HM.out _ hb2
 have HRM : Hid (_ ∧ _ ∧ _) := ⟨rm, rm2, hb2⟩
 clear rm rm2 hb2 HM
 simp only [bv, marks5, List.map_cons, List.map_nil] at HRM
 go_wp2_with fail
 refine (same8_true HRM.out.2.1 HRM.out.1).mono ?_
 rintro e w3 ⟨rfl, hb3⟩
 go_wp2
 go_ret
 exact ⟨rfl, HRM.out.2.2.trans (hb3.mono HRM.out.2.2.size)⟩
def ApE (D : EntD) : Prop := (∀ g, D.vr.ownBlock = some g → D.vq.ownBlock ≠ some g) ∧ (∀ g, D.vr.ownBlock = some g → D.vv.ownBlock ≠ some g) ∧ (∀ g, D.vq.ownBlock = some g → D.vv.ownBlock ≠ some g)
theorem Laid.own_lt {w : World} {B : Nat} {u : Value} {bs : List Nat} (h : Laid w B u bs) : ∀ g, u.ownBlock = some g → B ≤ g ∧ g < w.heap.size := by
 obtain ⟨g2, c, rfl, h2, h3, h4⟩ := h
 intro g hg
 exact h4.2.lt g hg
def Within (D : EntD) (lo hi : Nat) : Prop := ∀ g, D.vr.ownBlock = some g ∨ D.vq.ownBlock = some g ∨ D.vv.ownBlock = some g → lo ≤ g ∧ g < hi
theorem LaidE.within {w : World} {B : Nat} {D : EntD} (h : LaidE w B D) : Within D B w.heap.size := by
 intro g hg
 rcases hg with hg | hg | hg
 ·exact h.1.own_lt g hg
 ·exact h.2.1.own_lt g hg
 ·exact h.2.2.own_lt g hg

set_option maxRecDepth 100000 in
set_option maxHeartbeats 4000000 in
theorem entry8_any {e : EntD} {w : World} (hok : EntD.Ok w e) :
  Calls Tryz.prog 6 #[.agg e.cells] w fun r w' => ∃ D : EntD, r = .returned (.agg D.cells) ∧ EntD.Same D e.cut ∧ LaidE w' w.heap.size D ∧ Below w.heap.size w w' ∧ ApE D := by
 have A0 := (Below.refl w.heap.size w).alloc (Nat.le_refl _) (.cells e.cells 38)
 have A1 := A0.alloc A0.size (.cells zeroD.cells 38)
 have bx1 : Hid (EBox ((w.alloc (.cells e.cells 38)).alloc (.cells zeroD.cells 38)) w.heap.size e) := (EBox.new w e).later ((Below.refl _ _).alloc (Nat.le_refl _) _)
 have bg0 := EBox.new (w.alloc (.cells e.cells 38)) zeroD
 rw [World.size_alloc] at bg0
 have bg1 := Lib.hid bg0
 have HK : Hid (EntD.Ok w e) := hok
 clear hok bg0 A0
 obtain ⟨vr, fam, vq, ts, seq, kind, vv, row, qual, val⟩ := e
 simp only [EntD.cells, zeroD] at *
 go_enter Tryz.func6, Tryz.ntmps6
 go_wp2_with fail
 refine (laid8_any (HK.out.1.later A1)).mono ?_
 rintro q w1 ⟨u1, rfl, l1, hb1⟩
 obtain ⟨a1, n1, k1, rfl⟩ := l1.form
 have hs1 : w.heap.size + 2 ≤ w1.heap.size := by have := hb1.size; simpa using this
 have B1 := (A1.trans (hb1.mono A1.size)).setCell (p := ⟨w.heap.size, 0, none⟩) (Nat.le_refl _) (.slice a1 n1 k1)
 have bx2 := bx1.out.later hb1
 have c0 := bx2.vr
 have f0 := bx2.fz 0
 have bx3 := bx2.set0 (.slice a1 n1 k1) (row.take 5000)
 have x2 := bx3.vq
 simp only at x2 c0
 have L1 : Hid (Laid (w1.setCell ⟨w.heap.size, 0, none⟩ (.slice a1 n1 k1)) (w.heap.size + 2) (.slice a1 n1 k1) (row.take 5000)) := (by have := l1; simp at this; exact this : Laid w1 (w.heap.size + 2) (.slice a1 n1 k1) (row.take 5000)).put (by omega)
 have HX3 := Lib.hid bx3
 have GA : Hid (∀ g, (Value.slice a1 n1 k1).ownBlock = some g → g < w1.heap.size) := fun g hg => (l1.own_lt g hg).2
 have bg2 := Lib.hid ((bg1.out.later hb1).apart (apart_set w1 w.heap.size 0 (.slice a1 n1 k1)) (by omega))
 clear l1 hb1 A1 bx1 bx2 bx3 bg1
 go_wp2_with fail
 refine (laid8_any (HK.out.2.1.later B1)).mono ?_
 rintro q w2 ⟨u2, rfl, l2, hb2⟩
 obtain ⟨a2, n2, k2, rfl⟩ := l2.form
 have hs2 : w.heap.size + 2 ≤ w2.heap.size := Nat.le_trans (by simpa using hs1) hb2.size
 have hsz2 : Hid (w1.heap.size ≤ w2.heap.size) := by unfold Hid; have := hb2.size; simpa using this
 have B2 := (B1.trans (hb2.mono B1.size)).setCell (p := ⟨w.heap.size, 2, none⟩) (Nat.le_refl _) (.slice a2 n2 k2)
 have bx4 := HX3.out.later hb2
 have c2 := bx4.vq
 have f2 := bx4.fz 2
 have bx5 := bx4.set2 (.slice a2 n2 k2) (qual.take 5000)
 have x6 := bx5.vv
 simp only at x6 c2
 have L2 : Hid (Laid (w2.setCell ⟨w.heap.size, 2, none⟩ (.slice a2 n2 k2)) (w.heap.size + 2) (.slice a1 n1 k1) (row.take 5000) ∧ Laid (w2.setCell ⟨w.heap.size, 2, none⟩ (.slice a2 n2 k2)) (w.heap.size + 2) (.slice a2 n2 k2) (qual.take 5000)) := ⟨(L1.out.later hb2).put (by omega), (l2.mono (by simpa using hs1)).put (by omega)⟩
 have HX5 := Lib.hid bx5
 have GB : Hid (∀ g, (Value.slice a2 n2 k2).ownBlock = some g → w1.heap.size ≤ g ∧ g < w2.heap.size) := fun g hg => by have := l2.own_lt g hg; simpa using this
 have bg3 := Lib.hid ((bg2.out.later hb2).apart (apart_set w2 w.heap.size 2 (.slice a2 n2 k2)) (by omega))
 clear l2 hb2 bx4 bx5 HX3 L1 c0 f0 x2 B1 bg2
 go_wp2_with fail
 refine (laid8_any (HK.out.2.2.later B2)).mono ?_
 rintro q w3 ⟨u3, rfl, l3, hb3⟩
 obtain ⟨a3, n3, k3, rfl⟩ := l3.form
 have B3 := (B2.trans (hb3.mono B2.size)).setCell (p := ⟨w.heap.size, 6, none⟩) (Nat.le_refl _) (.slice a3 n3 k3)
 have bx6 := HX5.out.later hb3
 have bx7 := bx6.set6 (.slice a3 n3 k3) (val.take 5000)
 have L3 : Laid (w3.setCell ⟨w.heap.size, 6, none⟩ (.slice a3 n3 k3)) (w.heap.size + 2) (.slice a1 n1 k1) (row.take 5000) ∧ Laid (w3.setCell ⟨w.heap.size, 6, none⟩ (.slice a3 n3 k3)) (w.heap.size + 2) (.slice a2 n2 k2) (qual.take 5000) ∧ Laid (w3.setCell ⟨w.heap.size, 6, none⟩ (.slice a3 n3 k3)) (w.heap.size + 2) (.slice a3 n3 k3) (val.take 5000) := ⟨(L2.out.1.later hb3).put (by omega), (L2.out.2.later hb3).put (by omega), (l3.mono (by simpa using hs2)).put (by omega)⟩
 have bg4 := (bg3.out.later hb3).apart (apart_set w3 w.heap.size 6 (.slice a3 n3 k3)) (by omega)
 have GC : Hid (∀ g, (Value.slice a3 n3 k3).ownBlock = some g → w2.heap.size ≤ g) := fun g hg => by have := (l3.own_lt g hg).1; simpa using this
 have GS : Hid (w1.heap.size ≤ w2.heap.size) := by unfold Hid; have := hsz2.out; exact this
 obtain ⟨D, hD⟩ : ∃ D : EntD, D = ⟨(.slice a1 n1 k1), fam, (.slice a2 n2 k2), ts, seq, kind, (.slice a3 n3 k3), row.take 5000, qual.take 5000, val.take 5000⟩ := ⟨_, rfl⟩
 have fb := filled_box bg4 D
 have bw := B3.trans ((filled_apart (w3.setCell ⟨w.heap.size, 6, none⟩ (.slice a3 n3 k3)) (w.heap.size + 1) D).below (by omega) B3.size)
 have L4 : Laid (filled (w3.setCell ⟨w.heap.size, 6, none⟩ (.slice a3 n3 k3)) (w.heap.size + 1) D) (w.heap.size + 2) (.slice a1 n1 k1) (row.take 5000) ∧ Laid (filled (w3.setCell ⟨w.heap.size, 6, none⟩ (.slice a3 n3 k3)) (w.heap.size + 1) D) (w.heap.size + 2) (.slice a2 n2 k2) (qual.take 5000) ∧ Laid (filled (w3.setCell ⟨w.heap.size, 6, none⟩ (.slice a3 n3 k3)) (w.heap.size + 1) D) (w.heap.size + 2) (.slice a3 n3 k3) (val.take 5000) := ⟨L3.1.fill (by omega), L3.2.1.fill (by omega), L3.2.2.fill (by omega)⟩
 rw [hD] at fb bw L4
 have HDN : Hid (_ ∧ _ ∧ _) := ⟨fb, bw, L4⟩
 obtain ⟨z0, z1, z2, z3, z4, z5, z6⟩ := bx6.cells7
 obtain ⟨zf0, zf1, zf2, zf3, zf4, zf5, zf6⟩ := bx6.fz7
 obtain ⟨y0, y1, y2, y3, y4, y5, y6⟩ := bx7.cells7
 obtain ⟨g0, g1, g2, g3, g4, g5, g6⟩ := bg4.cells7
 obtain ⟨gf0, gf1, gf2, gf3, gf4, gf5, gf6⟩ := bg4.fz7
 simp only at y0 y1 y2 y3 y4 y5 y6 g0 g1 g2 g3 g4 g5 g6 z6
 clear l3 hb3 bx6 bx7 HX5 L2 L3 L4 c2 f2 x6 B2 B3 fb bw bg4 bg3 hD z0 z1 z2 z3 z4 z5
 simp only [filled] at HDN
 go_wp2
 obtain ⟨fb, bw, L4⟩ := HDN.out
 clear HDN
 generalize ((((((((w3.setCell ⟨w.heap.size, 6, none⟩ (.slice a3 n3 k3)).setCell ⟨w.heap.size + 1, 0, none⟩ (.slice a1 n1 k1)).setCell ⟨w.heap.size + 1, 1, none⟩ (.int .i64 fam)).setCell ⟨w.heap.size + 1, 2, none⟩ (.slice a2 n2 k2)).setCell ⟨w.heap.size + 1, 3, none⟩ (.int .i64 ts)).setCell ⟨w.heap.size + 1, 4, none⟩ (.int .i64 seq)).setCell ⟨w.heap.size + 1, 5, none⟩ (.int .i64 kind)).setCell ⟨w.heap.size + 1, 6, none⟩ (.slice a3 n3 k3)) = wz at fb bw L4 ⊢
 obtain ⟨t0, t1, t2, t3, t4, t5, t6⟩ := fb.cells7
 simp only at t0 t1 t2 t3 t4 t5 t6
 (try simp only [Exit.inBlock, Exit.then])
 refine bodyPost_ret (v := .agg #[(.slice a1 n1 k1), .int .i64 fam, (.slice a2 n2 k2), .int .i64 ts, .int .i64 seq, .int .i64 kind, (.slice a3 n3 k3)]) ?hres rfl ?_
 case hres => simp [results, Tryz.results6, go_sem, t0, t1, t2, t3, t4, t5, t6]
 exact ⟨⟨(.slice a1 n1 k1), fam, (.slice a2 n2 k2), ts, seq, kind, (.slice a3 n3 k3), row.take 5000, qual.take 5000, val.take 5000⟩, rfl, ⟨rfl, rfl, rfl, rfl, rfl, rfl, rfl⟩, LaidE.mono ⟨L4.1, L4.2.1, L4.2.2⟩ (by omega), bw, ⟨fun g hg h => by have h1 := GA.out g hg; have h2 := (GB.out g h).1; omega, fun g hg h => by have h1 := GA.out g hg; have h2 := GC.out g h; have := GS.out; omega, fun g hg h => by have h1 := (GB.out g hg).2; have h2 := GC.out g h; omega⟩⟩


set_option maxRecDepth 100000 in
set_option maxHeartbeats 4000000 in
theorem stands8_any {a b : EntD} {B : Nat} {w : World} (ha : LaidE w B a) (hb : EntD.Ok w b) (h : EntD.Same a b) (hf : EntD.Fine a) :
  Calls Tryz.prog 46 #[.agg a.cells, .agg b.cells] w fun r w' => r = .returned (.bool true) ∧ Below w.heap.size w w' := by
 have A1 := (Below.refl w.heap.size w).alloc (Nat.le_refl _) (.cells a.cells 38)
 have A2 := A1.alloc A1.size (.cells b.cells 38)
 have bxa0 := (EBox.new w a).later ((Below.refl (w.alloc (.cells a.cells 38)).heap.size (w.alloc (.cells a.cells 38))).alloc (Nat.le_refl _) (.cells b.cells 38))
 have bxb0 := EBox.new (w.alloc (.cells a.cells 38)) b
 rw [World.size_alloc] at bxb0
 have HX : Hid (EBox _ w.heap.size a ∧ EBox _ (w.heap.size + 1) b ∧ Below w.heap.size w _) := ⟨bxa0, bxb0, A2⟩
 have HA : Hid (LaidE w B a) := ha
 have HB : Hid (EntD.Ok w b) := hb
 have HF : Hid (EntD.Fine a) := hf
 clear A1 A2 bxa0 bxb0 ha hb hf
 obtain ⟨e1, e2, e3, e4, e5, e6, e7⟩ := h
 obtain ⟨va, fa, qa, ta, sa, ka, wa, ra, la, ya⟩ := a
 obtain ⟨vb, fb, qb, tb, sb, kb, wb, rb, lb, yb⟩ := b
 simp only at e1 e2 e3 e4 e5 e6 e7
 subst e1 e2 e3 e4 e5 e6 e7
 simp only [EntD.cells] at *
 go_enter Tryz.func46, Tryz.ntmps46
 go_wp2_with fail
 refine (intact8_any (HA.out.1.later HX.out.2.2) (HB.out.1.later HX.out.2.2) (by have := HF.out.1.2; simp only at this ⊢; omega)).mono ?_
 rintro e w1 ⟨rfl, hb1⟩
 have B1 := HX.out.2.2.trans (hb1.mono HX.out.2.2.size)
 have bxa1 : Hid (EBox w1 w.heap.size _) := HX.out.1.later hb1
 have bxb1 : Hid (EBox w1 (w.heap.size + 1) _) := HX.out.2.1.later hb1
 have x2 := bxa1.out.vq
 have y2 := bxb1.out.vq
 simp only at x2 y2
 clear HX hb1
 go_wp2_with fail
 refine (intact8_any (HA.out.2.1.later B1) (HB.out.2.1.later B1) (by have := HF.out.2.1.2; simp only at this ⊢; omega)).mono ?_
 rintro e w2 ⟨rfl, hb2⟩
 have B2 := B1.trans (hb2.mono B1.size)
 have x6 := (bxa1.out.later hb2).vv
 have y6 := (bxb1.out.later hb2).vv
 simp only at x6 y6
 clear hb2 bxa1 bxb1 x2 y2 B1
 go_wp2_with fail
 refine (intact8_any (HA.out.2.2.later B2) (HB.out.2.2.later B2) (by have := HF.out.2.2.2; simp only at this ⊢; omega)).mono ?_
 rintro e w3 ⟨rfl, hb3⟩
 go_wp2
 go_ret
 exact ⟨rfl, B2.trans (hb3.mono B2.size)⟩

end Go.Proofs.YtpabbnddeklpdaaGreat
