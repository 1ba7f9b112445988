import Derived.Test.YtchebhafabhabaaGreatDoorK01
import Derived.Deep.RegionHeld3
import Derived.Lib.Hide
import Derived.Shelf.Bytes.SlCountOne
namespace Go.Proofs.YtchebhafabhabaaGreatDoor
open Go.RowKit
set_option linter.unusedVariables false

def bodyL (E P : List Nat) (n r : Nat) : List Nat := E ++ P ++ be4 n ++ [r]
def blockL (E P : List Nat) (n r : Nat) : List Nat := bodyL E P n r ++ le4 (sumL (bodyL E P n r))
set_option maxRecDepth 100000 in
set_option maxHeartbeats 2000000 in
theorem finish_any {w : World} {g n r ne ce np cp : Nat} {ae ap : Option Addr} {vl : Value} {E P : List Nat} (h : BBox w g (r : Int) (n : Int) (.slice ae ne ce) (.slice ap np cp) vl) (hE : Rd w (.slice ae ne ce) E) (hP : Rd w (.slice ap np cp) P) (hne : ne ≤ 1000000) (hnp : np ≤ 1000000) (hn0 : 0 < n) (hn : n < 4294967296) (hr : r < 256) (ht : Tab w) (hs : ∀ L : List Nat, sumL L < 4294967296) :
  Calls Tryz.prog 41 #[.pointer (some ⟨g, 0, none⟩)] w fun e w' => ∃ a m c, e = .returned (.tuple #[.slice a m c, .int .i64 0]) ∧ Own w' w.heap.size (.slice a m c) m (blockL E P n r) ∧ Below w.heap.size w w' := by
 obtain ⟨i0, hi, hz0, hz1, hz2⟩ := info_parts info_byte
 have HB : Hid (∀ wx, Below w.heap.size w wx → BBox wx g (r : Int) (n : Int) (.slice ae ne ce) (.slice ap np cp) vl) := by
  have h' : ∀ wx, Below w.heap.size w wx → BBox wx g (r : Int) (n : Int) (.slice ae ne ce) (.slice ap np cp) vl := fun wx hx => h.later hx
  exact h'
 have HR : Hid (∀ wx, Below w.heap.size w wx → Rd wx (.slice ae ne ce) E ∧ Rd wx (.slice ap np cp) P ∧ Tab wx) := by
  have h' : ∀ wx, Below w.heap.size w wx → Rd wx (.slice ae ne ce) E ∧ Rd wx (.slice ap np cp) P ∧ Tab wx := fun wx hx => ⟨hE.later hx, hP.later hx, ht.later hx⟩
  exact h'
 have HLn : Hid (ne = E.length ∧ np = P.length) := ⟨(rd_lens hE).1, (rd_lens hP).1⟩
 obtain ⟨c0, c1, c2, c3, c4⟩ := h.cells
 have hn1 : ¬ ((n : Int) = 0) := by omega
 have hn2 : ((n : Int) == 0) = false := by rw [beq_eq_false_iff_ne]; exact hn1
 have HSz : Hid (∀ wx, Below w.heap.size w wx → Calls Tryz.prog 57 #[.pointer (some ⟨g, 0, none⟩)] wx fun e w' => e = .returned (.int .i64 ((ne + np + 9 : Nat) : Int)) ∧ Below wx.heap.size wx w') := by
  have h' : ∀ wx, Below w.heap.size w wx → Calls Tryz.prog 57 #[.pointer (some ⟨g, 0, none⟩)] wx fun e w' => e = .returned (.int .i64 ((ne + np + 9 : Nat) : Int)) ∧ Below wx.heap.size wx w' := fun wx hx => by
   have := size_any (h.later hx) (by omega) (by omega)
   rwa [if_neg (by omega : ¬ n = 0)] at this
  exact h'
 obtain ⟨sz, hsz⟩ : ∃ sz, sz = ne + np + 9 := ⟨_, rfl⟩
 rw [← hsz] at HSz
 have hszl : sz ≤ 3000000 := by omega
 clear h hE hP ht hsz
 go_enter Tryz.func41, Tryz.ntmps41
 go_wp2_with (go_at_call 57; fail)
 refine Calls.mono (HSz.out _ (Below.refl _ _)) ?_
 rintro e1 w1 ⟨rfl, b1⟩
 obtain ⟨q0, q1, q2, q3, q4⟩ := (HB.out _ b1).cells
 go_wp2_with (first
  | (have Y := O4; go_at_call 53; fail)
  | (have Y := O3; at_builtin; refine wpList_append_at rfl _ _ rfl w.heap.size _ _ _ _ rfl O3.out _ _ _ _ rfl (HR.out _ b3).2.1 (by have := hm3.out; omega) b3.size ?_; intro a4 m4 c4 w4 own4 b4'; have O4 : Hid (Own w4 w.heap.size (.slice a4 m4 c4) m4 (E ++ P)) := own4; have b4 := b3.trans b4'; obtain ⟨s0, s1, s2, s3, s4⟩ := (HB.out _ b4).cells; have hm4 : Hid (m4 = ne + np) := own4.1.trans (by rw [List.length_append, HLn.out.1, HLn.out.2]); clear own4 b4')
  | (have Y := O2; at_builtin; refine wpList_append_at rfl _ _ rfl w.heap.size _ _ _ _ rfl O2.out _ _ _ _ rfl (HR.out _ b2).1 (by omega) b2.size ?_; intro a3 m3 c3 w3 own3 b3'; rw [List.nil_append] at own3; have O3 : Hid (Own w3 w.heap.size (.slice a3 m3 c3) m3 E) := own3; have b3 := b2.trans b3'; obtain ⟨p0, p1, p2, p3, p4⟩ := (HB.out _ b3).cells; have hm3 : Hid (m3 = ne) := own3.1.trans HLn.out.1.symm; clear own3 b3')
  | (at_make; refine wpList_make_own _ rfl _ _ 36 rfl w.heap.size 5 i0 (.int .u8 0) 1 und_bytes hi hz0 hz1 .i64 .i64 _ sz rfl rfl rfl (by rw [hz2]; omega) (by unfold maxLen; omega) b1.size ?_; intro w2 own2 gr2; have O2 : Hid (Own w2 w.heap.size (.slice (some ⟨w1.heap.size, 0, none⟩) 0 sz) 0 []) := ⟨rfl, own2⟩; have b2 : Below w.heap.size w w2 := b1.grown gr2 b1.size (fun k hk => by cases hk); obtain ⟨r0, r1, r2, r3, r4⟩ := (HB.out _ b2).cells; clear own2 gr2))
 have hl4 : (E ++ P).length ≤ 70368744177664 := by have := O4.out.1; have := hm4.out; omega
 refine Calls.mono (handed (appendWord_any n hn O4.out.own b4.size hl4)) ?_
 rintro e5 w5 ⟨a5, m5, c5, rfl, own5, b5'⟩
 have O5 : Hid (Own w5 w.heap.size (.slice a5 m5 c5) m5 (E ++ P ++ be4 n)) := own5
 have hm5 : Hid (m5 = ne + np + 4) := own5.1.trans (by rw [List.length_append, ← O4.out.1, hm4.out]; rfl)
 have b5 := b4.trans b5'
 obtain ⟨t0, t1, t2, t3, t4⟩ := (HB.out _ b5).cells
 clear own5 b5'
 go_wp2_with (first | (have Y := O6; go_at_call 80; fail) | (at_builtin; refine wpList_append_lit rfl _ _ rfl w.heap.size _ _ 1 _ _ [r] _ (by simp [bv]) rfl (by decide) rfl rfl O5.out (by have := hm5.out; omega) b5.size ?_; intro a6 c6 w6 g6; have O6 : Hid (Own w6 w.heap.size (.slice a6 (m5 + 1) c6) (m5 + 1) (bodyL E P n r)) := g6.new; have b6 : Below w.heap.size w w6 := b5.grown g6.grown b5.size (fun k hk => (O5.out.2.lt k hk).1); clear g6))
 have hby : Bys (bodyL E P n r) := by
  have h1 := (HR.out _ b6).1.1
  have h2 := (HR.out _ b6).2.1.1
  intro x hx
  simp only [bodyL, be4, List.mem_append, List.mem_cons, List.not_mem_nil, or_false] at hx
  rcases hx with ((hx | hx) | hx) | hx
  ·exact h1 x hx
  ·exact h2 x hx
  ·omega
  ·omega
 refine Calls.mono (appendSumB_any O6.out hby b6.size (by have := hm5.out; omega) (HR.out _ b6).2.2 (hs _)) ?_
 rintro e7 w7 ⟨a7, c7, rfl, g7⟩
 have O7 : Hid (Own w7 w.heap.size (.slice a7 (m5 + 1 + 4) c7) (m5 + 1 + 4) (blockL E P n r)) := g7.new
 have b7 : Below w.heap.size w w7 := b6.grown g7.grown b6.size (fun k hk => (O6.out.2.lt k hk).1)
 clear g7
 go_wp2
 refine bodyPost_ret (v := .tuple #[.slice a7 (m5 + 1 + 4) c7, .int .i64 0]) ?_ rfl ⟨a7, m5 + 1 + 4, c7, rfl, O7.out, b7⟩
 simp [results, Tryz.results41, go_sem]
end Go.Proofs.YtchebhafabhabaaGreatDoor

namespace Go.Proofs.YtchebhafabhabaaGreatDoor
open Go.RowKit
set_option linter.unusedVariables false

set_option maxRecDepth 100000 in
set_option maxHeartbeats 1000000 in
theorem appendWordG_any {w : World} {B m c : Nat} {a : Option Addr} {acc : List Nat} (n : Nat) (hn : n < 4294967296) (ho : Own w B (.slice a m c) m acc) (hB : B ≤ w.heap.size) (hm : m ≤ 1000000000) :
  Calls Tryz.prog 53 #[.slice a m c, .int .i64 (n : Int)] w fun e w' => ∃ a' c', e = .returned (.slice a' (m + 4) c') ∧ Gr w w' B m (m + 4) (.slice a m c) (.slice a' (m + 4) c') acc (be4 n) := by
 have HO := Lib.hid ho
 clear ho
 go_enter Tryz.func53, Tryz.ntmps53
 go_wp2_with (at_builtin; refine wpList_append_lit rfl _ _ rfl B _ _ 4 _ _ (be4 n) _ (by simp [bv, be4]) rfl (by decide) rfl rfl HO.out (by omega) hB ?_)
 intro a2 c2 x2 g2
 have G1 := Lib.hid g2
 clear g2
 go_wp2
 go_ret
 exact ⟨a2, c2, rfl, G1.out⟩

structure Bs where
 n : Nat
 es : List Nat
 ps : List Nat
 la : List Nat
def Bs.zero : Bs := ⟨0, [], [], []⟩
def shOf (r : Nat) (s : Bs) (key : List Nat) : Nat := if s.n % r = 0 then 0 else comL s.la key
def psOf (r : Nat) (s : Bs) : List Nat := if s.n % r = 0 then s.ps ++ be4 s.es.length else s.ps
def esOf (r : Nat) (s : Bs) (key val : List Nat) : List Nat := s.es ++ recL (shOf r s key) (key.drop (shOf r s key)) val
def addB (r : Nat) (s : Bs) (key val : List Nat) : Bs := ⟨s.n + 1, esOf r s key val, psOf r s, key⟩
def fullB (r : Nat) (s : Bs) (key val : List Nat) : Bool := decide (131072 < (esOf r s key val).length + (psOf r s).length + 9)
structure Fb (w w' : World) (O : Nat → Prop) : Prop where
 os : w'.os = w.os
 tape : w'.tape = w.tape
 output : w'.output = w.output
 size : w.heap.size ≤ w'.heap.size
 block : ∀ k, k < w.heap.size → ¬ O k → w'.heap[k]? = w.heap[k]?
theorem Fb.refl (w : World) (O : Nat → Prop) : Fb w w O := ⟨rfl, rfl, rfl, Nat.le_refl _, fun _ _ _ => rfl⟩
theorem Fb.trans {w w' w2 : World} {O : Nat → Prop} (h : Fb w w' O) (k : Fb w' w2 O) : Fb w w2 O := ⟨k.os.trans h.os, k.tape.trans h.tape, k.output.trans h.output, Nat.le_trans h.size k.size, fun i hi ho => (k.block i (Nat.lt_of_lt_of_le hi h.size) ho).trans (h.block i hi ho)⟩
theorem Fb.mono {w w' : World} {O O' : Nat → Prop} (h : Fb w w' O) (k : ∀ i, i < w.heap.size → O i → O' i) : Fb w w' O' := ⟨h.os, h.tape, h.output, h.size, fun i hi ho => h.block i hi (fun z => ho (k i hi z))⟩
theorem Fb.of_below {w w' : World} {O : Nat → Prop} (h : Below w.heap.size w w') : Fb w w' O := ⟨h.os, h.tape, h.output, h.size, fun i hi _ => h.block i hi⟩
theorem Fb.of_grown {w w' : World} {O : Nat → Prop} {row : Option Nat} (h : w.grownBy w' row) (k : ∀ i, row = some i → O i) : Fb w w' O := ⟨h.os, h.tape, h.output, h.size, fun i hi ho => h.block i hi (fun z => ho (k i z.symm))⟩
theorem Fb.below {w w' : World} {O : Nat → Prop} {B : Nat} (h : Fb w w' O) (hB : B ≤ w.heap.size) (k : ∀ i, O i → B ≤ i) : Below B w w' := ⟨h.os, h.tape, h.output, h.size, fun i hi => h.block i (by omega) (fun z => by have := k i z; omega)⟩
theorem Own.fb {w w' : World} {O : Nat → Prop} {B n : Nat} {v : Value} {xs : List Nat} (h : Own w B v n xs) (f : Fb w w' O) (k : ∀ i, v.ownBlock = some i → ¬ O i) : Own w' B v n xs := by
 refine ⟨h.1, h.2.1, ?_⟩
 rcases h.2.2 with h2 | ⟨g, cap, cur, h3, h4, h5, h6⟩
 ·exact .inl h2
 ·exact .inr ⟨g, cap, cur, h3, h4, by rw [f.block g (Array.getElem?_eq_some_iff.1 h5).1 (k g (by rw [h3]; rfl))]; exact h5, h6⟩
theorem BBox.fb {w w' : World} {O : Nat → Prop} {g : Nat} {r n : Int} {ve vp vl : Value} (h : BBox w g r n ve vp vl) (f : Fb w w' O) (k : ¬ O g) : BBox w' g r n ve vp vl := by
 unfold BBox at *
 rw [f.block g (Array.getElem?_eq_some_iff.1 h).1 k]
 exact h
def Apb (u v : Value) : Prop := ∀ k, u.ownBlock = some k → v.ownBlock ≠ some k
structure Bd (w : World) (B g r : Nat) (s : Bs) (ve vp vl : Value) : Prop where
 box : BBox w g (r : Int) (s.n : Int) ve vp vl
 es : Own w B ve s.es.length s.es
 ps : Own w B vp s.ps.length s.ps
 la : Own w B vl s.la.length s.la
 ep : Apb ve vp
 el : Apb ve vl
 pl : Apb vp vl
 bg : B ≤ g
 size : s.es.length + s.ps.length ≤ 131072
 lal : s.la.length ≤ 100000
 few : s.n ≤ s.es.length
 byE : Bys s.es
 byP : Bys s.ps
 byL : Bys s.la
theorem BBox.ne {w : World} {g B n : Nat} {r m : Int} {ve vp vl v : Value} {xs : List Nat} (h : BBox w g r m ve vp vl) (o : Own w B v n xs) : v.ownBlock ≠ some g := fun z => by
 rcases o.2.2 with ⟨h1, _⟩ | ⟨g', cap, cur, h1, _, h3, _⟩
 ·rw [h1] at z; cases z
 ·rw [h1] at z
  cases z
  unfold BBox at h
  rw [h3] at h
  cases h
def bO (g : Nat) (ve vp : Value) (k : Nat) : Prop := k = g ∨ ve.ownBlock = some k ∨ vp.ownBlock = some k
end Go.Proofs.YtchebhafabhabaaGreatDoor

namespace Go.Proofs.YtchebhafabhabaaGreatDoor
open Go.RowKit
set_option linter.unusedVariables false

def be8 (n : Nat) : List Nat := [n / 2 ^ 56 % 256, n / 2 ^ 48 % 256, n / 2 ^ 40 % 256, n / 2 ^ 32 % 256, n / 2 ^ 24 % 256, n / 2 ^ 16 % 256, n / 2 ^ 8 % 256, n % 256]
theorem be8_bys (n : Nat) : Bys (be8 n) := by intro x hx; simp [be8] at hx; omega
theorem be8_get (n t : Nat) (h : t < 8) : (be8 n).getD t 0 = n / 2 ^ (8 * (7 - t)) % 256 := by
 match t, h with
 | 0, _ => rfl
 | 1, _ => rfl
 | 2, _ => rfl
 | 3, _ => rfl
 | 4, _ => rfl
 | 5, _ => rfl
 | 6, _ => rfl
 | 7, _ => simp [be8]
def fill8 (n t : Nat) : List Nat := (be8 n).take t ++ List.replicate (8 - t) 0
theorem fill8_len (n t : Nat) (h : t ≤ 8) : (fill8 n t).length = 8 := by simp [fill8, be8]; omega
theorem fill8_next (n t : Nat) (h : t < 8) : (fill8 n t).set t ((be8 n).getD t 0) = fill8 n (t + 1) := by
 match t, h with
 | 0, _ => rfl
 | 1, _ => rfl
 | 2, _ => rfl
 | 3, _ => rfl
 | 4, _ => rfl
 | 5, _ => rfl
 | 6, _ => rfl
 | 7, _ => rfl

set_option maxRecDepth 100000 in
set_option maxHeartbeats 1000000 in
theorem rising_any (n : Nat) (hn : n < 9223372036854775808) (w : World) :
  Calls Tryz.prog 121 #[.int .i64 (n : Int)] w fun e w' => ∃ a m c, e = .returned (.tuple #[.slice a m c, .int .i64 0]) ∧ Own w' w.heap.size (.slice a m c) m (be8 n) ∧ Below w.heap.size w w' := by
 have h0 : (0 : Int) ≤ (n : Int) := by omega
 have hmk : ∀ w, (Instr.makeSlice 36 (.int .i64 8) (.int .i64 8)).run Tryz.prog w = .ok (.slice (some ⟨w.heap.size, 0, none⟩) 8 8) (w.alloc (.cells #[.int .u8 0, .int .u8 0, .int .u8 0, .int .u8 0, .int .u8 0, .int .u8 0, .int .u8 0, .int .u8 0] 5)) := fun _ => by kernel_rfl
 go_enter Tryz.func121, Tryz.ntmps121
 go_wp2
 go_loopw [11] (fun i wr => ∃ t, t ≤ 8 ∧ i = .int .i64 ((t : Nat) : Int) ∧ Own wr w.heap.size (.slice (some ⟨w.heap.size, 0, none⟩) 8 8) 8 (fill8 n t) ∧ Below w.heap.size w wr) (fun i _ => 8 - (intOf i).toNat)
 case atStart =>
  refine ⟨0, by omega, rfl, ⟨rfl, ?_⟩, (Below.refl _ _).alloc (Nat.le_refl _) _⟩
  exact ⟨rfl, .inr ⟨w.heap.size, 8, _, rfl, Nat.le_refl _, heap_alloc_new w _, by omega, by unfold maxLen; omega, rfl, rfl⟩⟩
 case round =>
  obtain ⟨t, htl, rfl, ownk, hbk⟩ := hrel
  by_cases hlt : t < 8
  ·have hlt2 : (t : Int) < 8 := by omega
   have hfz := ownk.2.frozenAt t
   have hcell : wr.cell? ⟨w.heap.size, t, none⟩ = some (.int .u8 (((fill8 n t).getD t 0 : Nat) : Int)) := by
    rw [ownk.2.cellAt t (by omega)]
    simp [bv, List.getElem?_eq_getElem (show t < (fill8 n t).length by rw [fill8_len n t (by omega)]; exact hlt)]
   obtain ⟨y, hy⟩ : ∃ y, y = (fill8 n t).getD t 0 := ⟨_, rfl⟩
   rw [← hy] at hcell
   clear hy
   have HOWN : Hid (Own wr w.heap.size (.slice (some ⟨w.heap.size, 0, none⟩) 8 8) 8 (fill8 n t)) := ownk
   have HBK : Hid (Below w.heap.size w wr) := hbk
   clear ownk hbk
   have hvv : ((n : Int) / 2 ^ (8 * (7 - t)) % 256) = (((be8 n).getD t 0 : Nat) : Int) := by
    rw [be8_get n t hlt]; simp
   have HVV : Hid (((n : Int) / 2 ^ (8 * (7 - t)) % 256) = (((be8 n).getD t 0 : Nat) : Int)) := hvv
   clear hvv
   go_wp2
   go_roundw
   case rel =>
    have st := HOWN.out.2.stored t (.int .u8 ((n : Int) / 2 ^ (8 * (7 - t)) % 256))
    refine ⟨t + 1, by omega, by go_num, ⟨by rw [fill8_len n (t + 1) (by omega)], ?_⟩, HBK.out.setCell (p := ⟨w.heap.size, t, none⟩) (Nat.le_refl _) _⟩
    have := st.1
    rw [HVV.out] at this ⊢
    have e : bv (fill8 n (t + 1)) = (bv (fill8 n t)).set t (.int .u8 (((be8 n).getD t 0 : Nat) : Int)) := by
     rw [← fill8_next n t hlt]
     simp [bv, List.map_set]
    rw [e]
    exact this
   case measure => simp [intOf]; omega
  ·have hge : (8 : Int) ≤ (t : Int) := by omega
   obtain rfl : t = 8 := by omega
   have e : fill8 n 8 = be8 n := rfl
   rw [e] at ownk
   go_wp2
   go_ret2
   exact ⟨_, _, _, rfl, ownk, hbk⟩

theorem rising_at (z : Int) (n : Nat) (hz : z = (n : Int)) (hn : n < 9223372036854775808) (w : World) :
  Calls Tryz.prog 121 #[.int .i64 z] w fun e w' => ∃ a m c, e = .returned (.tuple #[.slice a m c, .int .i64 0]) ∧ Own w' w.heap.size (.slice a m c) m (be8 n) ∧ Below w.heap.size w w' := by
 subst hz; exact rising_any n hn w

set_option maxRecDepth 100000 in
set_option maxHeartbeats 400000 in
theorem falling_any (n : Nat) (hn : n < 9223372036854775808) (w : World) :
  Calls Tryz.prog 110 #[.int .i64 (n : Int)] w fun e w' => ∃ a m c, e = .returned (.tuple #[.slice a m c, .int .i64 0]) ∧ Own w' w.heap.size (.slice a m c) m (be8 (9223372036854775807 - n)) ∧ Below w.heap.size w w' := by
 have h0 : (0 : Int) ≤ (n : Int) := by omega
 have h1 : (n : Int) ≤ 9223372036854775807 := by omega
 obtain ⟨q, hq⟩ : ∃ q, q = 9223372036854775807 - n := ⟨_, rfl⟩
 have HQ : Hid (((9223372036854775807 : Int) - (n : Int)) = (q : Int)) := by unfold Hid; omega
 have HQ2 : Hid (q < 9223372036854775808) := by unfold Hid; omega
 rw [← hq]
 clear hq
 go_enter Tryz.func110, Tryz.ntmps110
 go_wp2_with fail
 refine (rising_at _ q HQ.out HQ2.out _).mono ?_
 rintro e w1 ⟨a1, m1, c1, rfl, own1, hb1⟩
 go_wp2
 go_ret2
 exact ⟨a1, m1, c1, rfl, own1, hb1⟩

def num8 (l : List Nat) : Nat := l.foldl (fun v c => v * 256 + c) 0
theorem num8_lt (l : List Nat) (h : Bys l) : num8 l < 256 ^ l.length := by
 have key : ∀ (l : List Nat) (v k : Nat), Bys l → v < 256 ^ k → l.foldl (fun v c => v * 256 + c) v < 256 ^ (k + l.length) := by
  intro l
  induction l with
  | nil => intro v k _ hv; simpa using hv
  | cons c l ih =>
   intro v k hb hv
   have := ih (v * 256 + c) (k + 1) (fun x hx => hb x (by simp [hx])) (by have := hb c (by simp); rw [Nat.pow_succ]; omega)
   rw [show k + (c :: l).length = k + 1 + l.length by simp; omega]
   exact this
 have := key l 0 0 h (by simp)
 rw [Nat.zero_add] at this
 exact this
theorem num8_snoc (l : List Nat) (t : Nat) (h : t < l.length) : num8 (l.take (t + 1)) = num8 (l.take t) * 256 + l.getD t 0 := by
 rw [take_succ_getD l t h]
 simp [num8, List.foldl_append]
def riseR (bs : List Nat) (k : Nat) : Nat × Nat × Nat :=
 if bs.length < k + 8 then (0, 0, 10)
 else if 9223372036854775807 < num8 ((bs.drop k).take 8) then (0, 0, 13)
 else (num8 ((bs.drop k).take 8), k + 8, 0)

set_option maxRecDepth 100000 in
set_option maxHeartbeats 1000000 in
theorem readRising_in {v : Value} {bs : List Nat} {w : World} (hr : Rd w v bs) (k : Nat) (hk : k ≤ bs.length) :
  Calls Tryz.prog 139 #[v, .int .i64 (k : Int)] w fun e w' => e = .returned (.tuple #[.int .i64 (((riseR bs k).1 : Nat) : Int), .int .i64 (((riseR bs k).2.1 : Nat) : Int), .int .i64 (((riseR bs k).2.2 : Nat) : Int)]) ∧ w' = w := by
 obtain ⟨a, n, cap, rfl⟩ := rd_slice hr
 obtain ⟨hn, hle, hm, hl48⟩ := rd_lens hr
 rw [← hn] at hk
 have HN : Hid (n = bs.length) := hn
 clear hn
 unfold maxLen at hm
 have hk2 : (k : Int) ≤ (n : Int) := by omega
 have hk0 : (0 : Int) ≤ (k : Int) := by omega
 have hd : decide ((k : Int) < 0 ∨ (n : Int) < (k : Int)) = false := by simp; omega
 by_cases h8 : n < k + 8
 ·have hf : riseR bs k = (0, 0, 10) := by unfold riseR; rw [if_pos (by rw [← HN.out]; exact h8)]
  rw [hf]
  have e1 : (n : Int) - (k : Int) < 8 := by omega
  clear hf
  go_enter Tryz.func139, Tryz.ntmps139
  go_wp2_with fail
  refine (outside_any _ hl48).mono ?_
  rintro e w1 ⟨rfl, rfl⟩
  rw [hd]
  go_wp2
  go_ret3
  exact ⟨rfl, rfl⟩
 ·have e1 : (8 : Int) ≤ (n : Int) - (k : Int) := by omega
  rcases rd_some hr with ⟨_, h0, _⟩ | ⟨b, off, rfl⟩
  ·omega
  have hne : ¬ cap = k := by omega
  have rs := hr.sub k (k + 8) (by omega) (by omega) (off' := off + k) (n' := 8) (cap' := cap - k) rfl (by omega) rfl
  have eb : (bs.take (k + 8)).drop k = (bs.drop k).take 8 := by rw [List.drop_take]; congr 1; omega
  rw [eb] at rs
  obtain ⟨L, hL⟩ : ∃ L, L = (bs.drop k).take 8 := ⟨_, rfl⟩
  rw [← hL] at rs
  have hf : riseR bs k = if 9223372036854775807 < num8 L then (0, 0, 13) else (num8 L, k + 8, 0) := by
   unfold riseR; rw [if_neg (by rw [← HN.out]; exact h8), ← hL]
  have HL8 : Hid (L.length = 8) := by unfold Hid; rw [hL, List.length_take, List.length_drop, ← HN.out]; omega
  have HLB : Hid (Bys L) := rs.1
  obtain ⟨R, hR⟩ : ∃ R, R = riseR bs k := ⟨_, rfl⟩
  rw [← hR] at hf ⊢
  have HF : Hid (R = if 9223372036854775807 < num8 L then (0, 0, 13) else (num8 L, k + 8, 0)) := hf
  clear hR
  have hcells : ∀ t, t < 8 → w.cell? ⟨b, off + k + t, none⟩ = some (.int .u8 ((L.getD t 0 : Nat) : Int)) := fun t htt => (rd_cell rs t htt).1
  have HC : Hid (∀ t, t < 8 → w.cell? ⟨b, off + k + t, none⟩ = some (.int .u8 ((L.getD t 0 : Nat) : Int))) := hcells
  clear hf eb hL hcells rs hr
  go_enter Tryz.func139, Tryz.ntmps139
  go_wp2_with fail
  refine (outside_any _ hl48).mono ?_
  rintro e w1 ⟨rfl, rfl⟩
  rw [hd]
  go_wp2
  go_loop [7, 24] (fun x i => ∃ t q : Nat, t ≤ 8 ∧ i = .int .i64 (t : Int) ∧ x = .int .u64 (q : Int) ∧ q = num8 (L.take t) ∧ q < 256 ^ t) (fun _ i => 8 - (intOf i).toNat)
  case atStart => exact ⟨0, 0, by omega, rfl, rfl, rfl, by simp⟩
  case round =>
   obtain ⟨t, q, htl, rfl, rfl, hq, hql⟩ := hrel
   have HQ : Hid (q = num8 (L.take t)) := hq
   clear hq
   by_cases hlt : t < 8
   ·have hlt2 : (t : Int) < 8 := by omega
    have hq7 : q < 72057594037927936 := Nat.lt_of_lt_of_le hql (by
     have : 256 ^ t ≤ 256 ^ 7 := Nat.pow_le_pow_right (by omega) (by omega)
     exact Nat.le_trans this (by decide))
    have hc := HC.out t hlt
    have hcl := HLB.out.get t
    obtain ⟨c, hcd⟩ : ∃ c, c = L.getD t 0 := ⟨_, rfl⟩
    rw [← hcd] at hc hcl
    have HCD : Hid (c = L.getD t 0) := hcd
    have HQL : Hid (q < 256 ^ t) := hql
    clear hcd hql
    have em : (c : Int) % 18446744073709551616 = (c : Int) := by omega
    have hor : bits .or .u64 ((q : Int) * 256) (c : Int) = ((q * 256 + c : Nat) : Int) := by
     have := u64_or_nat (q * 256) c (by omega) (by omega)
     rw [nat_join 8 (q * 256) c (by omega) (by omega)] at this
     rw [← this]
     simp
    obtain ⟨r, hr⟩ : ∃ r, r = q * 256 + c := ⟨_, rfl⟩
    rw [← hr] at hor
    have HR : Hid (r = q * 256 + c) := hr
    clear hr
    go_wp2
    go_round
    case rel =>
     refine ⟨t + 1, r, by omega, by go_num, by first | rfl | rw [hor], ?_, ?_⟩
     ·rw [num8_snoc L t (by rw [HL8.out]; exact hlt), ← HQ.out, ← HCD.out]; exact HR.out
     ·rw [HR.out, Nat.pow_succ]; have := HQL.out; omega
    case measure => simp [intOf]; omega
   ·have hge : (8 : Int) ≤ (t : Int) := by omega
    obtain rfl : t = 8 := by omega
    have e8 : L.take 8 = L := List.take_of_length_le (by rw [HL8.out]; omega)
    have hqL := HQ.out
    rw [e8] at hqL
    have hq64 : q < 18446744073709551616 := hql
    have hRq := HF.out
    rw [← hqL] at hRq
    clear hql hqL e8
    by_cases hbig : 9223372036854775807 < q
    ·rw [if_pos hbig] at hRq
     have HRQ : Hid (R = (0, 0, 13)) := hRq
     clear hRq
     have hb2 : (9223372036854775807 : Int) < (q : Int) := by omega
     clear hbig
     go_wp2
     go_ret3
     rw [HRQ.out]
     exact ⟨rfl, rfl⟩
    ·rw [if_neg hbig] at hRq
     have HRQ : Hid (R = (q, k + 8, 0)) := hRq
     clear hRq
     have hb2 : (q : Int) ≤ 9223372036854775807 := by omega
     have hw : IntKind.i64.wrap (q : Int) = (q : Int) := by simp only [IntKind.wrap, IntKind.bits, IntKind.signed]; simp; omega
     have HE : Hid (((k : Int) + 8) = ((k + 8 : Nat) : Int)) := by unfold Hid; omega
     clear hbig
     go_wp2
     go_ret3
     rw [HRQ.out]
     refine ⟨?_, rfl⟩
     exact congrArg (fun z : Int => Ending.returned (Value.tuple #[Value.int .i64 (q : Int), Value.int .i64 z, Value.int .i64 0])) HE.out

theorem readRising_at {v : Value} {bs : List Nat} {w : World} (hr : Rd w v bs) (z : Int) (k : Nat) (hz : z = (k : Int)) (hk : k ≤ bs.length) {V P E : Nat} (h : riseR bs k = (V, P, E)) :
  Calls Tryz.prog 139 #[v, .int .i64 z] w fun e w' => e = .returned (.tuple #[.int .i64 (V : Int), .int .i64 (P : Int), .int .i64 (E : Int)]) ∧ w' = w := by
 subst hz
 have := readRising_in hr k hk
 rw [h] at this
 exact this

def fallR (bs : List Nat) (k : Nat) : Nat × Nat × Nat :=
 if (riseR bs k).2.2 ≠ 0 then (0, 0, (riseR bs k).2.2) else (9223372036854775807 - (riseR bs k).1, (riseR bs k).2.1, 0)
theorem riseR_lt (bs : List Nat) (k : Nat) : (riseR bs k).1 ≤ 9223372036854775807 ∧ (riseR bs k).2.2 ≤ 13 ∧ ((riseR bs k).2.2 ≠ 0 → (riseR bs k).2.1 = 0) ∧ (riseR bs k).2.1 ≤ k + 8 := by
 unfold riseR
 split
 ·simp
 ·split
  ·simp
  ·rename_i h1 h2
   refine ⟨by show num8 _ ≤ _; omega, by simp, by simp, by simp⟩

set_option maxRecDepth 100000 in
set_option maxHeartbeats 400000 in
theorem readFalling_in {v : Value} {bs : List Nat} {w : World} (hr : Rd w v bs) (k : Nat) (hk : k ≤ bs.length) :
  Calls Tryz.prog 136 #[v, .int .i64 (k : Int)] w fun e w' => e = .returned (.tuple #[.int .i64 (((fallR bs k).1 : Nat) : Int), .int .i64 (((fallR bs k).2.1 : Nat) : Int), .int .i64 (((fallR bs k).2.2 : Nat) : Int)]) ∧ w' = w := by
 have hl := riseR_lt bs k
 obtain ⟨R, hR⟩ : ∃ R, R = riseR bs k := ⟨_, rfl⟩
 obtain ⟨V, P, E⟩ := R
 rw [← hR] at hl
 simp only at hl
 have HR : Hid (riseR bs k = (V, P, E)) := hR.symm
 have HK : Hid (k ≤ bs.length) := hk
 clear hk
 by_cases hE : E = 0
 ·have hf : fallR bs k = (9223372036854775807 - V, P, 0) := by unfold fallR; rw [← hR]; simp [hE]
  rw [hf]
  subst hE
  have HV : Hid (((9223372036854775807 : Int) - (V : Int)) = ((9223372036854775807 - V : Nat) : Int)) := by unfold Hid; omega
  have hV : (V : Int) ≤ 9223372036854775807 := by omega
  clear hf hR hl
  go_enter Tryz.func136, Tryz.ntmps136
  go_wp2_with fail
  refine (readRising_at hr _ k rfl HK.out HR.out).mono ?_
  rintro e w1 ⟨rfl, rfl⟩
  go_wp2
  go_ret3
  refine ⟨?_, rfl⟩
  exact congrArg (fun z : Int => Ending.returned (Value.tuple #[Value.int .i64 z, Value.int .i64 (P : Int), Value.int .i64 0])) HV.out
 ·have hf : fallR bs k = (0, 0, E) := by unfold fallR; rw [← hR]; simp [hE]
  rw [hf]
  have e1 : ((E : Int) != 0) = true := by simp; omega
  clear hf hR hl
  go_enter Tryz.func136, Tryz.ntmps136
  go_wp2_with fail
  refine (readRising_at hr _ k rfl HK.out HR.out).mono ?_
  rintro e w1 ⟨rfl, rfl⟩
  go_wp2
  go_ret3
  exact ⟨rfl, rfl⟩

end Go.Proofs.YtchebhafabhabaaGreatDoor

namespace Go.Proofs.YtchebhafabhabaaGreatDoor
open Go.RowKit
set_option linter.unusedVariables false

theorem ints_at {w : World} {x : Addr} {bs : List Nat} (h : At w (some x) bs) : ∀ i, i < bs.length → w.cell? (x.add i) = some (.int .u8 ((bs.map fun n : Nat => (n : Int)).getD i 0)) := by
 intro i hi
 have := h.add i (.int .u8 ((bs.getD i 0 : Nat) : Int)) (by simp [bv, List.getElem?_eq_getElem hi])
 rw [this]
 simp [List.getElem?_eq_getElem hi]

theorem count_eq (bs : List Nat) (h : Bys bs) : Lib.countByte (Lib.bytesOf (bs.map fun n : Nat => (n : Int))) (0 : Int).toNat.toUInt8 = bs.count 0 := by
 unfold Lib.countByte Lib.bytesOf
 induction bs with
 | nil => rfl
 | cons c r ih =>
  have hc := h c (by simp)
  have ih' := ih (fun x hx => h x (by simp [hx]))
  simp only [List.map_cons, List.count_cons]
  rw [ih']
  congr 1
  have e : (UInt8.ofNat ((c : Int)).toNat == (0 : Int).toNat.toUInt8) = (c == 0) := by
   rw [Int.toNat_natCast]
   by_cases h0 : c = 0
   ·subst h0; rfl
   ·have : UInt8.ofNat c ≠ (0 : Int).toNat.toUInt8 := by
     intro hh
     have h2 := congrArg UInt8.toNat hh
     simp at h2
     omega
    rw [beq_eq_false_iff_ne.2 this, beq_eq_false_iff_ne.2 h0]
  rw [e]

set_option maxRecDepth 100000 in
set_option maxHeartbeats 1000000 in
theorem count_any {v : Value} {bs : List Nat} {w : World} (hr : Rd w v bs) (g : Nat) (hg : w.cell? ⟨g, 0, none⟩ = some (.int .u8 0)) :
  Calls Tryz.prog 109 #[v, .slice (some ⟨g, 0, none⟩) 1 1] w fun e w' => e = .returned (.int .i64 ((bs.count 0 : Nat) : Int)) ∧ w' = w := by
 obtain ⟨hby, a, cap, rfl, hle, hm, hl48, hnone, hat⟩ := hr
 cases a with
 | none =>
  have hb0 : bs = [] ∧ cap = 0 := by
   rcases hnone with h | ⟨b, off, h⟩
   ·exact ⟨List.eq_nil_of_length_eq_zero (by omega), h⟩
   ·cases h
  obtain ⟨rfl, rfl⟩ := hb0
  go_enter Tryz.func109, Tryz.ntmps109
  go_wp2
  rw [run_callFunc_extern Tryz.func119 (by kernel_rfl) (by kernel_rfl) (by kernel_rfl) (e := Extern.BytealgCount.count) (by kernel_rfl), Lib.run_countNil w 0 0 0]
  simp only [Result.andThen]
  rw [Oper.upon_value]
  go_wp2
  go_ret
  exact ⟨rfl, rfl⟩
 | some x =>
  have hi := ints_at hat
  obtain ⟨n, hn⟩ : ∃ n, n = bs.length := ⟨_, rfl⟩
  have hc := Lib.run_countAt (P := Tryz.prog) w x n cap (bs.map fun n : Nat => (n : Int)) (by simp [hn]) (by rw [hn]; exact hi) 0
  rw [← hn]
  have HN : Hid (n = bs.length) := hn
  have HCT : Hid (Lib.countByte (Lib.bytesOf (bs.map fun n : Nat => (n : Int))) (0 : Int).toNat.toUInt8 = bs.count 0) := count_eq bs hby
  obtain ⟨C, hC⟩ : ∃ C, C = Lib.countByte (Lib.bytesOf (bs.map fun n : Nat => (n : Int))) (0 : Int).toNat.toUInt8 := ⟨_, rfl⟩
  rw [← hC] at hc
  have HC : Hid (C = bs.count 0) := by unfold Hid; rw [hC]; exact HCT.out
  clear hn hi hat hnone hle hl48 hC HCT
  go_enter Tryz.func109, Tryz.ntmps109
  go_wp2
  rw [run_callFunc_extern Tryz.func119 (by kernel_rfl) (by kernel_rfl) (by kernel_rfl) (e := Extern.BytealgCount.count) (by kernel_rfl), hc]
  simp only [Result.andThen]
  rw [Oper.upon_value]
  go_wp2
  go_ret
  rw [← HC.out]
  exact ⟨rfl, rfl⟩

def escL : List Nat → List Nat
 | [] => []
 | c :: r => if c = 0 then 0 :: 255 :: escL r else c :: escL r
def ordL (bs : List Nat) : List Nat := escL bs ++ [0, 1]
theorem escL_append (a b : List Nat) : escL (a ++ b) = escL a ++ escL b := by
 induction a with
 | nil => rfl
 | cons c a ih =>
  simp only [List.cons_append, escL]
  split <;> simp [ih]
theorem escL_len (bs : List Nat) : (escL bs).length = bs.length + bs.count 0 := by
 induction bs with
 | nil => rfl
 | cons c r ih =>
  simp only [escL, List.count_cons]
  by_cases h : c = 0
  ·subst h; simp [ih]; omega
  ·simp [h, ih]; omega
theorem ordL_len (bs : List Nat) : (ordL bs).length = bs.length + bs.count 0 + 2 := by unfold ordL; rw [List.length_append, escL_len]; rfl
theorem escL_bys (bs : List Nat) (h : Bys bs) : Bys (escL bs) := by
 induction bs with
 | nil => intro x hx; simp [escL] at hx
 | cons c r ih =>
  have ih' := ih (fun x hx => h x (by simp [hx]))
  have hc := h c (by simp)
  simp only [escL]
  split
  ·intro x hx
   simp only [List.mem_cons] at hx
   rcases hx with rfl | rfl | hx
   ·omega
   ·omega
   ·exact ih' x hx
  ·intro x hx
   simp only [List.mem_cons] at hx
   rcases hx with rfl | hx
   ·exact hc
   ·exact ih' x hx
theorem ordL_bys (bs : List Nat) (h : Bys bs) : Bys (ordL bs) := (escL_bys bs h).app (by intro x hx; simp at hx; omega)
theorem escL_le (bs : List Nat) (t : Nat) : (escL (bs.take t)).length ≤ (escL bs).length := by
 conv => rhs; rw [← List.take_append_drop t bs, escL_append]
 simp

theorem own_room {w : World} {B : Nat} {v : Value} {m n C m1 : Nat} {xs : List Nat} (h : Own w B v m (xs ++ [0])) (hm : m1 ≤ n + C) (hs : n + C + 2 ≤ 140737488355328) (h1 : m1 = xs.length) : m + 1 ≤ 140737488355328 := by
 have := h.1
 rw [List.length_append] at this
 simp at this
 omega

set_option maxRecDepth 100000 in
set_option maxHeartbeats 1000000 in
theorem ordered_any {v : Value} {bs : List Nat} {w : World} (hr : Rd w v bs) (hl : (ordL bs).length ≤ 140737488355328) :
  Calls Tryz.prog 88 #[v] w fun e w' => ∃ a m c, e = .returned (.slice a m c) ∧ Own w' w.heap.size (.slice a m c) m (ordL bs) ∧ Below w.heap.size w w' := by
 obtain ⟨i0, hi, hz0, hz1, hz2⟩ := info_parts info_byte
 obtain ⟨a, n, cap, rfl⟩ := rd_slice hr
 obtain ⟨hn, hle, hm, hl48⟩ := rd_lens hr
 have HN : Hid (n = bs.length) := hn
 have hol := ordL_len bs
 rw [← hn] at hol
 obtain ⟨C, hC⟩ : ∃ C, C = bs.count 0 := ⟨_, rfl⟩
 rw [← hC] at hol
 have hsum : n + C + 2 ≤ 140737488355328 := by omega
 have HC : Hid (C = bs.count 0) := hC
 have HOL : Hid ((ordL bs).length = n + C + 2) := hol
 clear hn hC hm hol hl
 have A1 := (Below.refl w.heap.size w).alloc (Nat.le_refl _) (.cells #[.int .u8 0] 5)
 have hg : (w.alloc (.cells #[.int .u8 0] 5)).cell? ⟨w.heap.size, 0, none⟩ = some (.int .u8 0) := news_new w [.int .u8 0] 5 0 _ rfl
 go_enter Tryz.func88, Tryz.ntmps88
 go_wp2_with fail
 refine (count_any (hr.later A1) _ hg).mono ?_
 rintro e w1 ⟨rfl, rfl⟩
 rw [← HC.out]
 have hs1 := A1.size
 clear hg
 go_wp2_with (at_make; refine wpList_make_own _ rfl _ _ 36 rfl w.heap.size 5 i0 (.int .u8 0) 1 und_bytes hi hz0 hz1 .i64 .i64 _ (n + C + 2) rfl rfl ?c0 ?c1 ?c2 ?c3 ?_)
 case c0 => omega
 case c1 => rw [hz2]; omega
 case c2 => unfold maxLen; omega
 case c3 => exact hs1
 intro w2 hown2 hg2
 have hb2 : Below w.heap.size w w2 := A1.grown hg2 hs1 (fun k hk => by simp at hk)
 clear hg2 A1 hs1
 have own2 : Own w2 w.heap.size (.slice (some ⟨w.heap.size + 1, 0, none⟩) 0 (n + C + 2)) 0 [] := ⟨rfl, hown2⟩
 clear hown2
 go_wp2
 go_loopw [3, 16] (fun s i wr => ∃ t a m c, t ≤ n ∧ i = .int .i64 ((t : Nat) : Int) ∧ s = .slice a m c ∧ Own wr w.heap.size (.slice a m c) m (escL (bs.take t)) ∧ Below w.heap.size w wr) (fun _ i _ => n - (intOf i).toNat)
 case atStart => exact ⟨0, _, _, _, Nat.zero_le _, rfl, rfl, own2, hb2⟩
 case round =>
  obtain ⟨t, a1, m1, c1, htl, rfl, rfl, own1, hb1⟩ := hrel
  have hs1 := hb1.size
  have hme := escL_le bs t
  have hm1 : m1 ≤ n + C := by
   rw [own1.1]
   have := HOL.out
   unfold ordL at this
   rw [List.length_append] at this
   simp at this
   omega
  clear hme
  by_cases hlt : t < n
  ·have hlt2 : (t : Int) < (n : Int) := by omega
   rcases rd_some hr with ⟨_, h0, _⟩ | ⟨b, off, rfl⟩
   ·omega
   obtain ⟨hcell0, hcl⟩ := rd_cell hr t hlt
   have hcell : wr.cell? ⟨b, off + t, none⟩ = some (.int .u8 ((bs.getD t 0 : Nat) : Int)) := by
    rw [hb1.cell (p := ⟨b, off + t, none⟩) (World.block_lt_of_cell? w _ hcell0)]; exact hcell0
   have htk := take_succ_getD bs t (by rw [← HN.out]; exact hlt)
   obtain ⟨c, hcd⟩ : ∃ c, c = bs.getD t 0 := ⟨_, rfl⟩
   rw [← hcd] at hcell hcl htk
   have HTK : Hid (bs.take (t + 1) = bs.take t ++ [c]) := htk
   clear hcd htk hcell0
   by_cases hc0 : c = 0
   ·subst hc0
    have HE : Hid (escL (bs.take (t + 1)) = (escL (bs.take t) ++ [0]) ++ [255]) := by
     unfold Hid; rw [HTK.out, escL_append]; simp [escL]
    go_wp2_with (first
     | (at_builtin; refine wpList_append_new rfl (.tmp 20) _ rfl w.heap.size a1 m1 c1 _ rfl own1 [_] 1 rfl [0] rfl rfl (by omega) hs1 ?_; intro a3 m3 c3 w3 own3 hb3)
     | (at_builtin; refine wpList_append_new rfl (.tmp 26) _ rfl w.heap.size a3 m3 c3 _ rfl own3 [_] 1 rfl [255] rfl rfl (own_room own3 hm1 hsum own1.1) (hb1.trans hb3).size ?_; intro a4 m4 c4 w4 own4 hb4))
    go_roundw
    case rel => exact ⟨t + 1, a4, m4, c4, by omega, by go_num, rfl, by rw [HE.out]; exact own4, (hb1.trans hb3).trans hb4⟩
    case measure => simp [intOf]; omega
   ·have HE : Hid (escL (bs.take (t + 1)) = escL (bs.take t) ++ [c]) := by
     unfold Hid; rw [HTK.out, escL_append]; simp [escL, hc0]
    have hcb : ((c : Int) == 0) = false := by simp; omega
    clear hc0
    go_wp2_with (at_builtin; refine wpList_append_new rfl (.tmp 20) _ rfl w.heap.size a1 m1 c1 _ rfl own1 [_] 1 rfl [c] rfl rfl (by omega) hs1 ?_; intro a3 m3 c3 w3 own3 hb3)
    go_roundw
    case rel => exact ⟨t + 1, a3, m3, c3, by omega, by go_num, rfl, by rw [HE.out]; exact own3, hb1.trans hb3⟩
    case measure => simp [intOf]; omega
  ·have hge : (n : Int) ≤ (t : Int) := by omega
   have HE : Hid (escL (bs.take t) = escL bs) := by unfold Hid; rw [List.take_of_length_le (by rw [← HN.out]; omega)]
   go_wp2_with (at_builtin; refine wpList_append_new rfl (.tmp 30) _ rfl w.heap.size a1 m1 c1 _ rfl own1 [_, _] 2 rfl [0, 1] rfl rfl (by omega) hs1 ?_; intro a3 m3 c3 w3 own3 hb3)
   go_ret
   refine ⟨a3, m3, c3, rfl, ?_, hb1.trans hb3⟩
   unfold ordL
   rw [← HE.out]
   exact own3

def zi : List Nat → Int
 | [] => -1
 | b :: l => if b = 0 then 0 else if zi l = -1 then -1 else zi l + 1
theorem zi_eq (bs : List Nat) (h : Bys bs) : Lib.indexByte (Lib.bytesOf (bs.map fun n : Nat => (n : Int))) (0 : Int).toNat.toUInt8 = zi bs := by
 induction bs with
 | nil => rfl
 | cons c r ih =>
  have hc := h c (by simp)
  have ih' := ih (fun x hx => h x (by simp [hx]))
  have hd : Lib.bytesOf ((c :: r).map fun n : Nat => (n : Int)) = UInt8.ofNat c :: Lib.bytesOf (r.map fun n : Nat => (n : Int)) := by simp [Lib.bytesOf]
  rw [hd]
  simp only [Lib.indexByte, zi]
  rw [ih']
  have e : (UInt8.ofNat c == (0 : Int).toNat.toUInt8) = (c == 0) := by
   by_cases h0 : c = 0
   ·subst h0; rfl
   ·have : UInt8.ofNat c ≠ (0 : Int).toNat.toUInt8 := by
     intro hh
     have h2 := congrArg UInt8.toNat hh
     simp at h2
     omega
    rw [beq_eq_false_iff_ne.2 this, beq_eq_false_iff_ne.2 h0]
  rw [e]
  by_cases h0 : c = 0
  ·simp [h0]
  ·simp [h0]
theorem run_index_any {P : Program} (w : World) (a : Addr) (n c : Nat) (xs : List Int) (hx : xs.length = n) (hc : ∀ i, i < n → w.cell? (a.add i) = some (.int .u8 (xs.getD i 0))) (cv : Int) :
  (Extern.BytealgIndexByte.indexByte #[.slice (some a) n c, .int .u8 cv]).run P w = .ok (.int .i64 (Lib.indexByte (Lib.bytesOf xs) cv.toNat.toUInt8)) w := by
 by_cases hn : n = 0
 ·subst hn
  have hx0 : xs = [] := List.eq_nil_of_length_eq_zero hx
  subst hx0
  have h1 := Lib.run_indexByteString (P := P) .empty cv w
  have hl := Lib.run_loadBytesX (P := P) w [] a .empty (fun j x hj => by simp at hj)
  change Sem.run P (do
   let b ← Extern.Bytes.bytesOf (.slice (some a) 0 c)
   let c ← Extern.Bytes.asByte (.int .u8 cv)
   match (List.range b.size).find? fun i => b[i]! == c with
   | some i => pure (goInt i)
   | none => pure (goInt (-1))) w = _
  rfl
 ·obtain ⟨b, off, spot⟩ := a
  have h0 := hc 0 (by omega)
  have hspot : spot = none := by simpa [Addr.add] using World.cell?_spot h0
  subst hspot
  refine Lib.run_indexByteSlice w b off n c xs hx (fun i hi => ?_) cv
  have e : (⟨b, off, none⟩ : Addr).add i = ⟨b, off + i, none⟩ := by unfold Addr.add; split <;> simp_all
  rw [← e]
  exact hc i hi

set_option maxRecDepth 100000 in
set_option maxHeartbeats 1000000 in
theorem indexByte_any {v : Value} {bs : List Nat} {w : World} (hr : Rd w v bs) :
  Calls Tryz.prog 128 #[v, .int .u8 0] w fun e w' => e = .returned (.int .i64 (zi bs)) ∧ w' = w := by
 obtain ⟨hby, a, cap, rfl, hle, hm, hl48, hnone, hat⟩ := hr
 cases a with
 | none =>
  have hb0 : bs = [] ∧ cap = 0 := by
   rcases hnone with h | ⟨b, off, h⟩
   ·exact ⟨List.eq_nil_of_length_eq_zero (by omega), h⟩
   ·cases h
  obtain ⟨rfl, rfl⟩ := hb0
  go_enter Tryz.func128, Tryz.ntmps128
  go_wp2
  rw [run_callFunc_extern Tryz.func137 (by kernel_rfl) (by kernel_rfl) (by kernel_rfl) (e := Extern.BytealgIndexByte.indexByte) (by kernel_rfl), Lib.run_indexByteNil w 0 0 0]
  simp only [Result.andThen]
  rw [Oper.upon_value]
  go_wp2
  go_ret
  exact ⟨rfl, rfl⟩
 | some x =>
  have hi := ints_at hat
  obtain ⟨n, hn⟩ : ∃ n, n = bs.length := ⟨_, rfl⟩
  have hc := run_index_any (P := Tryz.prog) w x n cap (bs.map fun n : Nat => (n : Int)) (by simp [hn]) (by rw [hn]; exact hi) 0
  rw [zi_eq bs hby] at hc
  rw [← hn]
  clear hn hi hat hnone hle hl48
  obtain ⟨Z, hZ⟩ : ∃ Z, Z = zi bs := ⟨_, rfl⟩
  rw [← hZ] at hc ⊢
  clear hZ
  go_enter Tryz.func128, Tryz.ntmps128
  go_wp2
  rw [run_callFunc_extern Tryz.func137 (by kernel_rfl) (by kernel_rfl) (by kernel_rfl) (e := Extern.BytealgIndexByte.indexByte) (by kernel_rfl), hc]
  simp only [Result.andThen]
  rw [Oper.upon_value]
  go_wp2
  go_ret
  exact ⟨rfl, rfl⟩

end Go.Proofs.YtchebhafabhabaaGreatDoor

namespace Go.Proofs.YtchebhafabhabaaGreatDoor
open Go.RowKit
set_option linter.unusedVariables false

def rord : List Nat → List Nat → Nat → List Nat × Nat × Nat
 | [], _, _ => ([], 0, 10)
 | [c], acc, i => ([], 0, 10)
 | c :: d :: r, acc, i => if c ≠ 0 then rord (d :: r) (acc ++ [c]) (i + 1) else if d = 1 then (acc, i + 2, 0) else if d = 255 then rord r (acc ++ [0]) (i + 2) else ([], 0, 11)
def ordR (bs : List Nat) (k : Nat) : List Nat × Nat × Nat :=
 ((rord (bs.drop k) [] 0).1, if (rord (bs.drop k) [] 0).2.2 = 0 then k + (rord (bs.drop k) [] 0).2.1 else 0, (rord (bs.drop k) [] 0).2.2)

theorem zi_neg (l : List Nat) : zi l < 0 → zi l = -1 ∧ ∀ acc i, rord l acc i = ([], 0, 10) := by
 induction l with
 | nil => intro _; exact ⟨rfl, fun _ _ => rfl⟩
 | cons c l ih =>
  intro h
  simp only [zi] at h ⊢
  by_cases hc : c = 0
  ·rw [if_pos hc] at h; omega
  ·rw [if_neg hc] at h ⊢
   by_cases hz : zi l = -1
   ·rw [if_pos hz] at h ⊢
    refine ⟨rfl, fun acc i => ?_⟩
    have := (ih (by omega)).2
    cases l with
    | nil => rfl
    | cons d r => unfold rord; rw [if_pos hc]; exact this _ _
   ·rw [if_neg hz] at h
    have : zi l = -1 := (ih (by omega)).1
    exact absurd this hz
theorem zi_pos (l : List Nat) (z : Nat) (h : zi l = (z : Int)) : z < l.length ∧ l.getD z 0 = 0 ∧ (∀ acc i, rord l acc i = rord (l.drop z) (acc ++ l.take z) (i + z)) := by
 induction l generalizing z with
 | nil => simp [zi] at h
 | cons c l ih =>
  simp only [zi] at h
  by_cases hc : c = 0
  ·rw [if_pos hc] at h
   have hz : z = 0 := by omega
   subst hz
   exact ⟨by simp, by simp [hc], fun acc i => by simp⟩
  ·rw [if_neg hc] at h
   by_cases hz : zi l = -1
   ·rw [if_pos hz] at h; omega
   ·rw [if_neg hz] at h
    have hz0 : ¬ zi l < 0 := fun hh => hz (zi_neg l hh).1
    obtain ⟨y, hy⟩ := Int.eq_ofNat_of_zero_le (show 0 ≤ zi l by omega)
    have hzy : z = y + 1 := by omega
    subst hzy
    obtain ⟨h1, h2, h3⟩ := ih y hy
    refine ⟨by simp; omega, by simpa using h2, fun acc i => ?_⟩
    cases l with
    | nil => simp at h1
    | cons d r =>
     have := h3 (acc ++ [c]) (i + 1)
     conv => lhs; unfold rord
     rw [if_pos hc, this]
     simp
     rw [show i + 1 + y = i + (y + 1) by omega]

theorem drop_cons' (l : List Nat) (t : Nat) (h : t < l.length) : l.drop t = l.getD t 0 :: l.drop (t + 1) := by
 rw [List.drop_eq_getElem_cons h]; simp [List.getD, List.getElem?_eq_getElem h]

theorem own_room2 {w : World} {B : Nat} {v : Value} {m m1 p z n : Nat} {xs ys : List Nat} (h : Own w B v m (xs ++ ys)) (hl : xs.length = m1 ∧ ys.length = z) (hmp : m1 ≤ p) (hp : (p : Int) + ((z : Int) + 2) ≤ (n : Int)) (hn : n ≤ 140737488355328) : m + 1 ≤ 140737488355328 := by
 have := h.1
 rw [List.length_append, hl.1, hl.2] at this
 omega

set_option maxRecDepth 100000 in
set_option maxHeartbeats 2000000 in
theorem readOrdered_in {v : Value} {bs : List Nat} {w : World} (hr : Rd w v bs) (k : Nat) (hk : k ≤ bs.length) (h47 : bs.length ≤ 140737488355328) :
  Calls Tryz.prog 134 #[v, .int .i64 (k : Int)] w fun e w' => ∃ a m c, e = .returned (.tuple #[.slice a m c, .int .i64 (((ordR bs k).2.1 : Nat) : Int), .int .i64 (((ordR bs k).2.2 : Nat) : Int)]) ∧ Own w' w.heap.size (.slice a m c) m (ordR bs k).1 ∧ Below w.heap.size w w' := by
 obtain ⟨a, n, cap, rfl⟩ := rd_slice hr
 obtain ⟨hn, hle, hm, hl48⟩ := rd_lens hr
 rw [← hn] at hk h47
 have HN : Hid (n = bs.length) := hn
 clear hn
 unfold maxLen at hm
 have hd : decide ((k : Int) < 0 ∨ (n : Int) < (k : Int)) = false := by simp; omega
 obtain ⟨R, hR⟩ : ∃ R, R = ordR bs k := ⟨_, rfl⟩
 rw [← hR]
 have HR : Hid (R = ordR bs k) := hR
 clear hR
 go_enter Tryz.func134, Tryz.ntmps134
 go_wp2_with fail
 refine (outside_any _ hl48).mono ?_
 rintro e w1 ⟨rfl, rfl⟩
 rw [hd]
 go_wp2
 go_loopw [1, 7] (fun x s wr => ∃ p a m c acc, k ≤ p ∧ p ≤ n ∧ x = .int .i64 ((p : Nat) : Int) ∧ s = .slice a m c ∧ Own wr w1.heap.size (.slice a m c) m acc ∧ m ≤ p ∧ rord (bs.drop k) [] 0 = rord (bs.drop p) acc (p - k) ∧ Below w1.heap.size w1 wr) (fun x _ _ => n - (intOf x).toNat)
 case atStart => exact ⟨k, _, _, _, [], Nat.le_refl _, hk, rfl, rfl, ⟨rfl, World.ownsRow_nil _ _ _ _⟩, Nat.zero_le _, by simp, Below.refl _ _⟩
 case round =>
  obtain ⟨p, a1, m1, c1, acc, hkp, hpn, rfl, rfl, own1, hmp, hro, hb1⟩ := hrel
  have HO : Hid (rord (bs.drop k) [] 0 = rord (bs.drop p) acc (p - k)) := hro
  clear hro
  have hs1 := hb1.size
  have hp0 : (0 : Int) ≤ (p : Int) := by omega
  have hpn2 : (p : Int) ≤ (n : Int) := by omega
  by_cases hcp : cap = p
  ·-- nothing is left
   have hnp : n = p := by omega
   have HRR : Hid (R = ([], 0, 10)) := by
    have hd0 : bs.drop p = [] := by rw [← hnp, HN.out]; simp
    unfold Hid
    rw [HR.out]
    unfold ordR
    rw [HO.out, hd0]
    rfl
   subst hnp
   subst hcp
   go_wp2_with fail
   refine (indexByte_any (Rd.zero _ a)).mono ?_
   rintro e w2 ⟨rfl, rfl⟩
   rw [show zi [] = -1 from rfl]
   go_wp2
   go_ret3
   rw [HRR.out]
   exact ⟨_, _, _, rfl, ⟨rfl, World.ownsRow_nil _ _ _ _⟩, hb1⟩
  ·rcases rd_some hr with ⟨h0, _⟩ | ⟨b, off, rfl⟩
   ·omega
   have rp := (hr.past p hpn (off' := off + p) rfl rfl rfl).later hb1
   have hlen : (bs.drop p).length = n - p := by rw [List.length_drop, ← HN.out]
   by_cases hz : zi (bs.drop p) < 0
   ·have HRR : Hid (R = ([], 0, 10)) := by
     unfold Hid
     rw [HR.out]
     unfold ordR
     rw [HO.out, (zi_neg _ hz).2]
     rfl
    have HZ : Hid (zi (bs.drop p) = -1) := (zi_neg _ hz).1
    clear hz hlen
    go_wp2_with fail
    refine (indexByte_any rp).mono ?_
    rintro e w2 ⟨rfl, rfl⟩
    rw [HZ.out]
    go_wp2
    go_ret3
    rw [HRR.out]
    exact ⟨_, _, _, rfl, ⟨rfl, World.ownsRow_nil _ _ _ _⟩, hb1⟩
   ·obtain ⟨z, hzz⟩ := Int.eq_ofNat_of_zero_le (show 0 ≤ zi (bs.drop p) by omega)
    obtain ⟨z1, z2, z3⟩ := zi_pos _ z hzz
    rw [hlen] at z1
    have HZ : Hid (zi (bs.drop p) = (z : Int)) := hzz
    have HO2 : Hid (rord (bs.drop k) [] 0 = rord ((bs.drop p).drop z) (acc ++ (bs.drop p).take z) (p - k + z)) := by unfold Hid; rw [HO.out]; exact z3 _ _
    have HZ0 : Hid ((bs.drop p).getD z 0 = 0) := z2
    clear hz hzz z2 z3
    have hzn : (0 : Int) ≤ (z : Int) := by omega
    have hdz : decide ((z : Int) < 0) = false := by simp
    by_cases hend : p + z + 1 = n
    ·have HRR : Hid (R = ([], 0, 10)) := by
      have e1 : (bs.drop p).drop z = [(bs.drop p).getD z 0] := by
       have e0 : (bs.drop p).drop (z + 1) = [] := List.drop_eq_nil_of_le (by rw [hlen]; omega)
       rw [drop_cons' (bs.drop p) z (by rw [hlen]; omega), e0]
      unfold Hid
      rw [HR.out]
      unfold ordR
      rw [HO2.out, e1]
      rfl
     have he : ((p : Int) + (z : Int) + 1 == (n : Int)) = true := by simp; omega
     clear hend hlen
     go_wp2_with fail
     refine (indexByte_any rp).mono ?_
     rintro e w2 ⟨rfl, rfl⟩
     rw [HZ.out]
     go_wp2
     go_ret3
     rw [HRR.out]
     exact ⟨_, _, _, rfl, ⟨rfl, World.ownsRow_nil _ _ _ _⟩, hb1⟩
    ·have he : ((p : Int) + (z : Int) + 1 == (n : Int)) = false := by simp; omega
     have rz := (hr.sub p (p + z) (by omega) (by omega) (off' := off + p) (n' := p + z - p) (cap' := cap - p) rfl rfl rfl).later hb1
     have ez : (bs.take (p + z)).drop p = (bs.drop p).take z := by rw [List.drop_take]; congr 1; omega
     rw [ez] at rz
     obtain ⟨hcd0, hcdl⟩ := rd_cell hr (p + z + 1) (by omega)
     obtain ⟨d, hdd⟩ : ∃ d, d = bs.getD (p + z + 1) 0 := ⟨_, rfl⟩
     rw [← hdd] at hcd0 hcdl
     have HD : Hid ((bs.drop p).drop z = 0 :: d :: bs.drop (p + z + 2)) := by
      unfold Hid
      rw [drop_cons' (bs.drop p) z (by rw [hlen]; omega), HZ0.out, drop_cons' (bs.drop p) (z + 1) (by rw [hlen]; omega)]
      have e1 : (bs.drop p).getD (z + 1) 0 = d := by rw [hdd]; simp [List.getD, Nat.add_assoc]
      rw [e1, List.drop_drop]
      simp [Nat.add_assoc]
     have hcd : wr.cell? ⟨b, off + (p + z + 1), none⟩ = some (.int .u8 (d : Int)) := by
      rw [hb1.cell (p := ⟨b, off + (p + z + 1), none⟩) (World.block_lt_of_cell? w1 _ hcd0)]; exact hcd0
     have hblk : b < w1.heap.size := World.block_lt_of_cell? w1 _ hcd0
     have HCD0 : Hid (w1.cell? ⟨b, off + (p + z + 1), none⟩ = some (.int .u8 (d : Int))) := hcd0
     have hpz3 : (p : Int) + ((z : Int) + 2) ≤ (n : Int) := by omega
     clear hdd hend hlen ez hcd0 hcd
     have hpz : (p : Int) ≤ (p : Int) + (z : Int) := by omega
     have hpz2 : (p : Int) + (z : Int) ≤ (cap : Int) := by omega
     go_wp2_with fail
     refine (indexByte_any rp).mono ?_
     rintro e w2 ⟨rfl, rfl⟩
     rw [HZ.out]
     have hroom : m1 + (p + z - p) ≤ 140737488355328 := by omega
     have HC5 : Hid (∀ w5 : World, Below w1.heap.size w1 w5 → w5.cell? ⟨b, off + (p + (z + 1)), none⟩ = some (.int .u8 (d : Int))) := by
      intro w5 hb5
      rw [hb5.cell (p := ⟨b, off + (p + (z + 1)), none⟩) hblk]
      exact HCD0.out
     clear HCD0
     by_cases hd1 : d = 1
     ·have HRR : Hid (R = (acc ++ (bs.drop p).take z, p + (z + 2), 0)) := by
       unfold Hid
       rw [HR.out]
       unfold ordR
       rw [HO2.out, HD.out, hd1]
       simp [rord]
       omega
      have e1 : ((d : Int) == 1) = true := by simp; omega
      have H1 : Hid (d = 1) := hd1
      clear hd1
      go_wp2_with (at_builtin; refine wpList_append_at rfl (.tmp 27) _ rfl w1.heap.size _ _ _ _ rfl own1 _ _ _ _ rfl rz hroom hs1 ?_; intro a5 m5 c5 w5 own5 hb5; have hb5' := hb1.trans hb5; have hcd := HC5.out w5 hb5')
      go_ret3
      rw [HRR.out]
      refine ⟨a5, m5, c5, ?_, own5, hb5'⟩
      have HE : ((p : Int) + ((z : Int) + 2)) = ((p + (z + 2) : Nat) : Int) := by omega
      exact congrArg (fun y : Int => Ending.returned (Value.tuple #[Value.slice a5 m5 c5, Value.int .i64 y, Value.int .i64 0])) HE
     ·have e1 : ((d : Int) == 1) = false := by simp; omega
      by_cases hd2 : d = 255
      ·have HO3 : Hid (rord (bs.drop k) [] 0 = rord (bs.drop (p + (z + 2))) ((acc ++ (bs.drop p).take z) ++ [0]) (p + (z + 2) - k)) := by
        unfold Hid
        rw [HO2.out, HD.out, hd2]
        conv => lhs; unfold rord
        simp
        rw [show p - k + z + 2 = p + (z + 2) - k by omega]
        rfl
       have e2 : ((d : Int) == 255) = true := by simp; omega
       have H1 : Hid (d = 255) := hd2
       have hzl : (bs.drop p).length = n - p := by rw [List.length_drop, ← HN.out]
       have HAL : Hid (acc.length = m1 ∧ ((bs.drop p).take z).length = z) := by unfold Hid; exact ⟨own1.1.symm, by rw [List.length_take, hzl]; omega⟩
       clear hd1 hd2 hzl
       go_wp2_with (first
        | (at_builtin; refine wpList_append_at rfl (.tmp 27) _ rfl w1.heap.size _ _ _ _ rfl own1 _ _ _ _ rfl rz hroom hs1 ?_; intro a5 m5 c5 w5 own5 hb5; have hb5' := hb1.trans hb5; have hcd := HC5.out w5 hb5')
        | (at_builtin; refine wpList_append_new rfl (.tmp 50) _ rfl w1.heap.size a5 m5 c5 _ rfl own5 [_] 1 rfl [0] rfl rfl (own_room2 own5 HAL.out hmp hpz3 h47) hb5'.size ?_; intro a6 m6 c6 w6 own6 hb6))
       go_roundw
       case rel =>
        refine ⟨p + (z + 2), a6, m6, c6, _, by omega, by omega, by go_num, rfl, own6, ?_, HO3.out, hb5'.trans hb6⟩
        have h1 := own6.1
        rw [List.length_append, List.length_append, HAL.out.1, HAL.out.2] at h1
        simp at h1
        omega
       case measure => simp [intOf]; omega
      ·have HRR : Hid (R = ([], 0, 11)) := by
        unfold Hid
        rw [HR.out]
        unfold ordR
        rw [HO2.out, HD.out]
        simp [rord, hd1, hd2]
       have e2 : ((d : Int) == 255) = false := by simp; omega
       clear hd1 hd2
       go_wp2_with (at_builtin; refine wpList_append_at rfl (.tmp 27) _ rfl w1.heap.size _ _ _ _ rfl own1 _ _ _ _ rfl rz hroom hs1 ?_; intro a5 m5 c5 w5 own5 hb5; have hb5' := hb1.trans hb5; have hcd := HC5.out w5 hb5')
       go_ret3
       rw [HRR.out]
       exact ⟨_, _, _, rfl, ⟨rfl, World.ownsRow_nil _ _ _ _⟩, hb5'⟩

end Go.Proofs.YtchebhafabhabaaGreatDoor
