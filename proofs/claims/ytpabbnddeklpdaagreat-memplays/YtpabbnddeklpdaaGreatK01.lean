import Derived.Test.YtpabbnddeklpdaaGreatK00
import Derived.Deep.RegionHeld3
import Derived.Lib.Bytealg
import Derived.Laws.EntriesVeiled
import Derived.Handy
namespace Go.Proofs.YtpabbnddeklpdaaGreat
open Go.RowKit
set_option linter.unusedVariables false

def EBox (w : World) (g : Nat) (e : EntD) : Prop := w.heap[g]? = some (.cells e.cells 38 (0, 0))
theorem EBox.later {w w' : World} {g : Nat} {e : EntD} (h : EBox w g e) (hb : Below w.heap.size w w') : EBox w' g e := by
 unfold EBox at *
 rw [hb.block g (Array.getElem?_eq_some_iff.1 h).1]; exact h
theorem EBox.keep {w w' : World} {B g : Nat} {e : EntD} (h : EBox w g e) (hb : Below B w w') (hg : g < B) : EBox w' g e := by
 unfold EBox at *
 rw [hb.block g hg]; exact h
theorem EBox.new (w : World) (e : EntD) : EBox (w.alloc (.cells e.cells 38)) w.heap.size e := by
 show (w.heap.push _)[w.heap.size]? = some _
 simp
theorem EBox.vr {w : World} {g : Nat} {e : EntD} (h : EBox w g e) : w.cell? ⟨g, 0, none⟩ = some e.vr := by unfold EBox EntD.cells at h; simp [World.cell?, h]
theorem EBox.fam {w : World} {g : Nat} {e : EntD} (h : EBox w g e) : w.cell? ⟨g, 1, none⟩ = some (.int .i64 e.fam) := by unfold EBox EntD.cells at h; simp [World.cell?, h]
theorem EBox.vq {w : World} {g : Nat} {e : EntD} (h : EBox w g e) : w.cell? ⟨g, 2, none⟩ = some e.vq := by unfold EBox EntD.cells at h; simp [World.cell?, h]
theorem EBox.ts {w : World} {g : Nat} {e : EntD} (h : EBox w g e) : w.cell? ⟨g, 3, none⟩ = some (.int .i64 e.ts) := by unfold EBox EntD.cells at h; simp [World.cell?, h]
theorem EBox.seq {w : World} {g : Nat} {e : EntD} (h : EBox w g e) : w.cell? ⟨g, 4, none⟩ = some (.int .i64 e.seq) := by unfold EBox EntD.cells at h; simp [World.cell?, h]
theorem EBox.kind {w : World} {g : Nat} {e : EntD} (h : EBox w g e) : w.cell? ⟨g, 5, none⟩ = some (.int .i64 e.kind) := by unfold EBox EntD.cells at h; simp [World.cell?, h]
theorem EBox.vv {w : World} {g : Nat} {e : EntD} (h : EBox w g e) : w.cell? ⟨g, 6, none⟩ = some e.vv := by unfold EBox EntD.cells at h; simp [World.cell?, h]

set_option maxRecDepth 100000 in
set_option maxHeartbeats 1000000 in
theorem appendFalling_any {B : Nat} {a0 : Option Addr} {m0 c0 : Nat} {acc : List Nat} {w : World} (n : Nat) (hn : n < 9223372036854775808) (hown : Own w B (.slice a0 m0 c0) m0 acc) (hB : B ≤ w.heap.size) (hl : m0 ≤ 1000000) :
  Calls Tryz.prog 79 #[.slice a0 m0 c0, .int .i64 (n : Int)] w fun e w' => ∃ a m c, e = .returned (.slice a m c) ∧ Own w' B (.slice a m c) m (acc ++ be8 (9223372036854775807 - n)) ∧ Below B w w' := by
 have HB : Hid (Bys (be8 (9223372036854775807 - n))) := be8_bys _
 go_enter Tryz.func79, Tryz.ntmps79
 go_wp2_with fail
 refine (falling_any n hn _).mono ?_
 rintro e w1 ⟨a1, m1, c1, rfl, own1, hb1⟩
 obtain rfl : m1 = 8 := own1.1
 have r1 := own1.rd HB.out (by omega)
 have own0 := hown.later hb1
 have B1 : Below B w w1 := hb1.mono hB
 clear own1 hb1
 go_wp2_with (at_builtin; refine wpList_append_at rfl _ _ rfl B a0 m0 c0 _ rfl own0 a1 8 c1 _ rfl r1 (by omega) (Nat.le_trans hB B1.size) ?_; intro a5 m5 c5 w5 own5 hb5)
 go_ret
 exact ⟨a5, m5, c5, rfl, own5, B1.trans hb5⟩

def mark (k a : Int) : Nat := if k = a then 0 else 1
def keyL (e : EntD) : List Nat :=
 ((((ordL e.row ++ [e.fam.toNat, mark e.kind 5]) ++ (if e.kind = 5 then [] else ordL e.qual ++ [mark e.kind 4])) ++ be8 (9223372036854775807 - e.ts.toNat)) ++ be8 (9223372036854775807 - e.seq.toNat)) ++ [e.kind.toNat]

set_option maxRecDepth 100000 in
set_option maxHeartbeats 4000000 in
theorem key_bad {e : EntD} {w : World} (hok : EntD.Ok w e) (hc : checkS e ≠ 0) :
  Calls Tryz.prog 54 #[.agg e.cells] w fun r w' => r = .returned (.tuple #[.slice none 0 0, .int .i64 ((checkS e : Nat) : Int)]) ∧ Below w.heap.size w w' := by
 obtain ⟨C, hC⟩ : ∃ C, C = checkS e := ⟨_, rfl⟩
 have A1 := (Below.refl w.heap.size w).alloc (Nat.le_refl _) (.cells e.cells 38)
 have c1 := check_any (hok.later A1)
 rw [← hC] at c1 hc ⊢
 have HC1 : Hid (Calls Tryz.prog 76 #[.agg e.cells] (w.alloc (.cells e.cells 38)) fun r w' => r = .returned (.int .i64 ((C : Nat) : Int)) ∧ Below (w.alloc (.cells e.cells 38)).heap.size (w.alloc (.cells e.cells 38)) w') := c1
 have h0 : ((C : Int) != 0) = true := by simp; omega
 have h1 : ¬ ((C : Int) = 0) := by omega
 clear c1 hC hok
 obtain ⟨vr, fam, vq, ts, seq, kind, vv, row, qual, val⟩ := e
 simp only [EntD.cells] at *
 go_enter Tryz.func54, Tryz.ntmps54
 go_wp2_with fail
 refine HC1.out.mono ?_
 rintro e1 w1 ⟨rfl, hb1⟩
 have B1 := A1.trans (hb1.mono A1.size)
 go_wp2
 go_ret2
 exact ⟨rfl, B1⟩

theorem check_facts {e : EntD} (h : checkS e = 0) : (1 ≤ e.row.length ∧ e.row.length ≤ 256) ∧ (0 ≤ e.fam ∧ e.fam < 8) ∧ e.qual.length ≤ 256 ∧ (e.kind = 5 → e.qual = []) ∧ (1 ≤ e.ts ∧ e.ts ≤ 1099511627776) ∧ (0 ≤ e.seq ∧ e.seq ≤ 17592186044431) ∧ (1 ≤ e.kind ∧ e.kind ≤ 5) ∧ e.val.length ≤ 4096 ∧ (e.kind ≠ 1 → e.val = []) := by
 unfold checkS at h
 split at h
 ·cases h
 split at h
 ·cases h
 split at h
 ·cases h
 split at h
 ·cases h
 split at h
 ·cases h
 split at h
 ·cases h
 split at h
 ·cases h
 refine ⟨by omega, by omega, by omega, fun hk => List.eq_nil_of_length_eq_zero (by omega), by omega, by omega, by omega, by omega, fun hk => List.eq_nil_of_length_eq_zero (by omega)⟩

theorem append2 {w W : World} {o : Oper} {a : Act} {K : Act → World → Prop} {Q : Exit → Act → World → Prop} (s x : Operand)
  (ho : o.op = .call { callee := .builtin .append, args := #[s, x], argTypes := #[34, 34] })
  (B : Nat) (a0 : Option Addr) (m0 c0 : Nat) (acc : List Nat) (hs : a.eval s = .slice a0 m0 c0) (hown : Own w B (.slice a0 m0 c0) m0 acc)
  (vs : List Value) (m g : Nat) (hg : g = w.heap.size) (hx : a.eval x = .slice (some ⟨g, 0, none⟩) m m) (bs : List Nat) (hvs : vs = bv bs) (hm : m = bs.length)
  (hbytes : m0 + m ≤ 140737488355328) (hB : B ≤ w.heap.size) (hW : W = w.alloc (.cells vs.toArray 5))
  (h : ∀ a' m' c' w', Own w' B (.slice a' m' c') m' (acc ++ bs) → Below B w w' → K (a.put o.dst (.slice a' m' c')) w') : o.wp Tryz.prog a W K Q := by
 obtain ⟨i0, hi, hz0, hz1, hz2⟩ := info_parts info_byte
 subst hW hvs hg
 refine wp_append_own _ s x 34 ho B 5 i0 (.int .u8 0) 1 1 und_bytes hi hz0 hz1 hz2 rfl (by decide) _ m0 (bv acc) hs (hown.2.alloc _) ⟨w.heap.size, 0, none⟩ m m (bv bs) hx (by simp [bv, hm]) (news_new _ _ _) (bv_oneCell bs) (by unfold maxLen; omega) (by omega) (by simp; omega) ?_
 intro v' w' h1 h2 _
 obtain ⟨a', c', rfl⟩ := own_form h1
 refine h a' _ c' w' ⟨by rw [hown.1, hm]; simp, by simpa [bv] using h1⟩ (((Below.refl B w).alloc hB _).grown h2 (by simp; omega) (fun k hk => (hown.2.lt k hk).1))

set_option maxRecDepth 100000 in
set_option maxHeartbeats 4000000 in
theorem key_ok {e : EntD} {w : World} (hok : EntD.Ok w e) (hc : checkS e = 0) :
  Calls Tryz.prog 54 #[.agg e.cells] w fun r w' => ∃ a m c, r = .returned (.tuple #[.slice a m c, .int .i64 0]) ∧ Own w' w.heap.size (.slice a m c) m (keyL e) ∧ Below w.heap.size w w' := by
 obtain ⟨f1, f2, f3, f4, f5, f6, f7, _, _⟩ := check_facts hc
 have A1 := (Below.refl w.heap.size w).alloc (Nat.le_refl _) (.cells e.cells 38)
 have bx1 : Hid (EBox (w.alloc (.cells e.cells 38)) w.heap.size e) := EBox.new w e
 have c1 := check_any (hok.later A1)
 rw [hc] at c1
 have HC1 : Hid (Calls Tryz.prog 76 #[.agg e.cells] (w.alloc (.cells e.cells 38)) fun r w' => r = .returned (.int .i64 ((0 : Nat) : Int)) ∧ Below (w.alloc (.cells e.cells 38)).heap.size (w.alloc (.cells e.cells 38)) w') := c1
 clear c1 hc
 obtain ⟨vr, fam, vq, ts, seq, kind, vv, row, qual, val⟩ := e
 obtain ⟨h1, h2, h3⟩ := hok
 simp only [EntD.cells] at *
 obtain ⟨fm, rfl⟩ := Int.eq_ofNat_of_zero_le f2.1
 obtain ⟨t, rfl⟩ := Int.eq_ofNat_of_zero_le (show 0 ≤ ts by omega)
 obtain ⟨sq, rfl⟩ := Int.eq_ofNat_of_zero_le f6.1
 obtain ⟨kd, rfl⟩ := Int.eq_ofNat_of_zero_le (show 0 ≤ kind by omega)
 have HOR : Hid ((ordL row).length ≤ 514 ∧ Bys (ordL row)) := ⟨by have := ordL_len row; have : row.count 0 ≤ row.length := List.count_le_length; omega, ordL_bys row h1.1⟩
 have HOQ : Hid ((ordL qual).length ≤ 514 ∧ Bys (ordL qual)) := ⟨by have := ordL_len qual; have : qual.count 0 ≤ qual.length := List.count_le_length; omega, ordL_bys qual h2.1⟩
 have hfm : fm < 8 := by omega
 have hkd : kd ≤ 5 := by omega
 have hts : t < 9223372036854775808 := by omega
 have hsq : sq < 9223372036854775808 := by omega
 have em1 : (fm : Int) % 256 = (fm : Int) := by omega
 have em2 : (kd : Int) % 256 = (kd : Int) := by omega
 have HRR : Hid (Rd w vr row) := h1
 have HRQ : Hid (Rd w vq qual) := h2
 obtain ⟨M5, hM5⟩ : ∃ M, M = (if (kd : Int) = 5 then 0 else 1 : Nat) := ⟨_, rfl⟩
 have HM5 : Hid (M5 = mark (kd : Int) 5) := hM5
 have cM5 := fun w => markOf_any (kd : Int) 5 w
 rw [← hM5] at cM5
 have HCM : Hid (∀ w, Calls Tryz.prog 78 #[.int .i64 (kd : Int), .int .i64 5] w fun e w' => e = .returned (.int .u8 ((M5 : Nat) : Int)) ∧ w' = w) := cM5
 clear h1 h2 h3 f1 f2 f3 f5 f6 f7 hM5 cM5
 go_enter Tryz.func54, Tryz.ntmps54
 go_wp2_with fail
 refine HC1.out.mono ?_
 rintro e1 w1 ⟨rfl, hb1⟩
 have B1 := A1.trans (hb1.mono A1.size)
 have bx2 : Hid (EBox w1 w.heap.size _) := bx1.out.later hb1
 have x0 := bx2.out.vr
 simp only at x0
 clear hb1 bx1
 go_wp2_with fail
 refine (ordered_any (HRR.out.later B1) (by have := HOR.out.1; omega)).mono ?_
 rintro e2 w2 ⟨a2, m2, c2, rfl, own2, hb2⟩
 have B2 := B1.trans (hb2.mono B1.size)
 have bx3 : Hid (EBox w2 w.heap.size _) := bx2.out.later hb2
 have hm2 : m2 ≤ 514 := by rw [own2.1]; exact HOR.out.1
 have hG : w.heap.size < w1.heap.size := World.block_lt_of_cell? w1 _ x0
 have hG2 : w1.heap.size ≤ w2.heap.size := hb2.size
 clear hb2 bx2 x0
 have DD : Below w2.heap.size w2 w2.drew := (Below.refl _ _).drew
 have B2D : Below w.heap.size w w2.drew := B2.trans (DD.mono B2.size)
 have y1 := (bx3.out.later DD).fam
 have y5 := (bx3.out.later DD).kind
 have DA : Below w2.heap.size w2 (w2.alloc (.cells #[.int .u8 (fm : Int), .int .u8 (M5 : Int)] 5)).drew := ((Below.refl _ _).alloc (Nat.le_refl _) _).drew
 have BA : Below w.heap.size w (w2.alloc (.cells #[.int .u8 (fm : Int), .int .u8 (M5 : Int)] 5)).drew := B2.trans (DA.mono B2.size)
 have wfm : IntKind.u8.wrap (fm : Int) = (fm : Int) := by simp only [IntKind.wrap, IntKind.bits, IntKind.signed]; simp; omega
 have yA1 := (bx3.out.later DA).fam
 have yA5 := (bx3.out.later DA).kind
 simp only at y1 y5 yA1 yA5
 go_wp2_with fail
 go_region_held3 (fun wx => wx.cell? ⟨w.heap.size, 1, none⟩ = some (.int .i64 (fm : Int)) ∧ wx.cell? ⟨w.heap.size, 5, none⟩ = some (.int .i64 (kd : Int)) ∧ Below w.heap.size w wx) (first | exact ⟨y1, y5, B2D⟩ | exact ⟨yA1, yA5, BA⟩ | exact ⟨yB1, yB5, BB⟩) (first | (go_at_call 78; refine (HCM.out _).mono ?_; rintro e1 wm ⟨rfl, rfl⟩) | (rw [if_pos (by rfl)]; refine append2 (w := w2.drew) (.tmp 14) (.tmp 21) rfl w1.heap.size a2 m2 c2 _ rfl (own2.later DD) (bv [fm, M5]) 2 w2.heap.size rfl rfl [fm, M5] rfl rfl (by omega) hG2 rfl ?_; intro a4 m4 c4 w4 own4 hb4; have BB : Below w.heap.size w w4 := B2D.trans (hb4.mono (Nat.le_of_lt hG)); have bx4 : Hid (EBox w4 w.heap.size _) := (bx3.out.later DD).keep hb4 hG; have yB1 := bx4.out.fam; have yB5 := bx4.out.kind))
 have hm4 : m4 = m2 + 2 := by rw [own4.1, List.length_append, ← own2.1]; rfl
 have HM4 : Hid (m4 = m2 + 2) := hm4
 have hm4b : m4 ≤ 516 := by omega
 have hSw4 : w1.heap.size ≤ w4.heap.size := Nat.le_trans hG2 hb4.size
 clear hm4 y1 y5 yA1 yA5 yB1 yB5 DA BA DD B2D wfm own2
 by_cases hk5 : kd = 5
 ·have HKL : Hid (keyL ⟨vr, (fm : Int), vq, (t : Int), (sq : Int), (kd : Int), vv, row, qual, val⟩ = (((ordL row ++ [fm, M5]) ++ be8 (9223372036854775807 - t)) ++ be8 (9223372036854775807 - sq)) ++ [kd]) := by
   unfold Hid keyL
   rw [HM5.out]
   simp [hk5]
  have hkn : ((kd : Int) == 5) = true := by simp; omega
  have hkm : ((kd : Int) != 5) = false := by simp; omega
  clear hk5
  have yk := bx4.out.kind
  simp only at yk
  have z3 := bx4.out.ts
  have z4 := bx4.out.seq
  have z5 := bx4.out.kind
  simp only at z3 z4 z5
  go_wp2_with fail
  refine (appendFalling_any t hts own4 hSw4 (by omega)).mono ?_
  rintro e6 w6 ⟨a6, m6, c6, rfl, own6, hb6⟩
  have hm6 : m6 = m4 + 8 := by rw [own6.1, List.length_append, ← own4.1]; rfl
  have HM6 : Hid (m6 = m4 + 8) := hm6
  have bx6 : Hid (EBox w6 w.heap.size _) := bx4.out.keep hb6 hG
  have BB6 : Below w.heap.size w w6 := BB.trans (hb6.mono (Nat.le_of_lt hG))
  have hS6 : w1.heap.size ≤ w6.heap.size := Nat.le_trans hSw4 hb6.size
  have u4 := bx6.out.seq
  have u5 := bx6.out.kind
  simp only at u4 u5
  clear z3 z4 z5 hm6
  go_wp2_with fail
  refine (appendFalling_any sq hsq own6 hS6 (by have := HM6.out; omega)).mono ?_
  rintro e7 w7 ⟨a7, m7, c7, rfl, own7, hb7⟩
  have HM7 : Hid (m7 = m6 + 8) := by unfold Hid; rw [own7.1, List.length_append, ← own6.1]; rfl
  have bx7 : Hid (EBox w7 w.heap.size _) := bx6.out.keep hb7 hG
  have BB7 : Below w.heap.size w w7 := BB6.trans (hb7.mono (Nat.le_of_lt hG))
  have hS7 : w1.heap.size ≤ w7.heap.size := Nat.le_trans hS6 hb7.size
  have x5 := bx7.out.kind
  simp only at x5
  clear u4 u5
  go_wp2_with (at_builtin; refine wpList_append_new rfl (.tmp 45) _ rfl w1.heap.size a7 m7 c7 _ rfl own7 [_] 1 rfl [kd] (by first | rfl | (simp [bv]; done) | (simp [bv]; omega)) rfl (by have := HM6.out; have := HM7.out; omega) hS7 ?_; intro a8 m8 c8 w8 own8 hb8)
  go_ret2
  refine ⟨a8, m8, c8, rfl, ?_, BB7.trans (hb8.mono (Nat.le_of_lt hG))⟩
  have hfin := own8.mono (Nat.le_of_lt hG)
  rw [HKL.out]
  exact hfin
 ·have hkn : ((kd : Int) == 5) = false := by simp; omega
  have hkm : ((kd : Int) != 5) = true := by simp; omega
  obtain ⟨M4, hM4⟩ : ∃ M, M = (if (kd : Int) = 4 then 0 else 1 : Nat) := ⟨_, rfl⟩
  have HMM : Hid (M4 = mark (kd : Int) 4) := hM4
  have cM4 := fun w => markOf_any (kd : Int) 4 w
  rw [← hM4] at cM4
  have HCM4 : Hid (∀ w, Calls Tryz.prog 78 #[.int .i64 (kd : Int), .int .i64 4] w fun e w' => e = .returned (.int .u8 ((M4 : Nat) : Int)) ∧ w' = w) := cM4
  have HKL : Hid (keyL ⟨vr, (fm : Int), vq, (t : Int), (sq : Int), (kd : Int), vv, row, qual, val⟩ = (((((ordL row ++ [fm, M5]) ++ ordL qual) ++ [M4]) ++ be8 (9223372036854775807 - t)) ++ be8 (9223372036854775807 - sq)) ++ [kd]) := by
   unfold Hid keyL
   rw [HM5.out, HMM.out]
   have : ¬ ((kd : Int) = 5) := by omega
   simp [this]
  clear hM4 cM4 hk5
  have yk := bx4.out.kind
  have yq := bx4.out.vq
  simp only at yk yq
  go_wp2_with fail
  refine (ordered_any (HRQ.out.later BB) (by have := HOQ.out.1; omega)).mono ?_
  rintro e5 w5 ⟨a5, m5, c5, rfl, own5, hb5⟩
  have hm5 : m5 ≤ 514 := by rw [own5.1]; exact HOQ.out.1
  have r5 := own5.rd HOQ.out.2 (by omega)
  have own45 := own4.later hb5
  have BB5 : Below w.heap.size w w5 := BB.trans (hb5.mono BB.size)
  have bx5 : Hid (EBox w5 w.heap.size _) := bx4.out.later hb5
  have hS5 : w1.heap.size ≤ w5.heap.size := Nat.le_trans hSw4 hb5.size
  have HL5 : Hid (m5 = (ordL qual).length) := own5.1
  clear yk yq own5 hb5
  go_wp2_with (first
   | (at_builtin; refine wpList_append_at rfl (.tmp 26) _ rfl w1.heap.size a4 m4 c4 _ rfl own45 a5 m5 c5 _ rfl r5 (by omega) hS5 ?_; intro a9 m9 c9 w9 own9 hb9; have bx9 : Hid (EBox w9 w.heap.size _) := bx5.out.keep hb9 hG; have yk9 := bx9.out.kind; have hS9 : w1.heap.size ≤ w9.heap.size := Nat.le_trans hS5 hb9.size; have HM9 : Hid (m9 = m4 + m5) := (by unfold Hid; rw [own9.1, List.length_append, ← own45.1, ← HL5.out]); simp only at yk9)
   | (go_at_call 78; refine (HCM4.out _).mono ?_; rintro e1 wm ⟨rfl, rfl⟩)
   | (at_builtin; refine wpList_append_new rfl (.tmp 31) _ rfl w1.heap.size a9 m9 c9 _ rfl own9 [_] 1 rfl [M4] rfl rfl (by have := HM9.out; omega) hS9 ?_; intro aX mX cX wX ownX hbX; have bxX : Hid (EBox wX w.heap.size _) := bx9.out.keep hbX hG; have hSwX : w1.heap.size ≤ wX.heap.size := Nat.le_trans hS9 hbX.size; have z3 := bxX.out.ts; simp only at z3))
  have HMX : Hid (mX = m9 + 1) := by unfold Hid; rw [ownX.1, List.length_append, ← own9.1]; rfl
  have hmX : mX ≤ 1031 := by have := HMX.out; have := HM9.out; omega
  have BBX : Below w.heap.size w wX := (BB5.trans (hb9.mono (Nat.le_of_lt hG))).trans (hbX.mono (Nat.le_of_lt hG))
  refine (appendFalling_any t hts ownX hSwX (by omega)).mono ?_
  rintro e6 w6 ⟨a6, m6, c6, rfl, own6, hb6⟩
  have hm6 : m6 = mX + 8 := by rw [own6.1, List.length_append, ← ownX.1]; rfl
  have HM6 : Hid (m6 = mX + 8) := hm6
  have bx6 : Hid (EBox w6 w.heap.size _) := bxX.out.keep hb6 hG
  have BB6 : Below w.heap.size w w6 := BBX.trans (hb6.mono (Nat.le_of_lt hG))
  have hS6 : w1.heap.size ≤ w6.heap.size := Nat.le_trans hSwX hb6.size
  have u4 := bx6.out.seq
  have u5 := bx6.out.kind
  simp only at u4 u5
  clear z3 hm6
  go_wp2_with fail
  refine (appendFalling_any sq hsq own6 hS6 (by have := HM6.out; omega)).mono ?_
  rintro e7 w7 ⟨a7, m7, c7, rfl, own7, hb7⟩
  have HM7 : Hid (m7 = m6 + 8) := by unfold Hid; rw [own7.1, List.length_append, ← own6.1]; rfl
  have bx7 : Hid (EBox w7 w.heap.size _) := bx6.out.keep hb7 hG
  have BB7 : Below w.heap.size w w7 := BB6.trans (hb7.mono (Nat.le_of_lt hG))
  have hS7 : w1.heap.size ≤ w7.heap.size := Nat.le_trans hS6 hb7.size
  have x5 := bx7.out.kind
  simp only at x5
  clear u4 u5
  go_wp2_with (at_builtin; refine wpList_append_new rfl (.tmp 45) _ rfl w1.heap.size a7 m7 c7 _ rfl own7 [_] 1 rfl [kd] (by first | rfl | (simp [bv]; done) | (simp [bv]; omega)) rfl (by have := HM6.out; have := HM7.out; omega) hS7 ?_; intro a8 m8 c8 w8 own8 hb8)
  go_ret2
  refine ⟨a8, m8, c8, rfl, ?_, BB7.trans (hb8.mono (Nat.le_of_lt hG))⟩
  have hfin := own8.mono (Nat.le_of_lt hG)
  rw [HKL.out]
  exact hfin

end Go.Proofs.YtpabbnddeklpdaaGreat

namespace Go.Proofs.YtpabbnddeklpdaaGreat
open Go.RowKit
set_option linter.unusedVariables false

def ordC : List Nat → List Nat → Int
 | [], [] => 0
 | [], _ :: _ => -1
 | _ :: _, [] => 1
 | x :: a, y :: b => if x < y then -1 else if y < x then 1 else ordC a b
theorem ordC_swap (a b : List Nat) : ordC b a = -ordC a b := by
 induction a generalizing b with
 | nil => cases b <;> simp [ordC]
 | cons x a ih =>
  cases b with
  | nil => simp [ordC]
  | cons y b =>
   simp only [ordC]
   by_cases h1 : x < y
   ·simp [h1, show ¬ y < x by omega]
   ·by_cases h2 : y < x
    ·simp [h1, h2]
    ·simp [h1, h2, ih b]
def val : List Nat → Nat
 | [] => 0
 | c :: r => c * 256 ^ r.length + val r
def cmpN (m n : Nat) : Int := if m < n then -1 else if n < m then 1 else 0
theorem drop_cons (l : List Nat) (t : Nat) (h : t < l.length) : l.drop t = l.getD t 0 :: l.drop (t + 1) := by
 rw [List.drop_eq_getElem_cons h]; simp [List.getD, List.getElem?_eq_getElem h]

end Go.Proofs.YtpabbnddeklpdaaGreat

namespace Go.Proofs.YtpabbnddeklpdaaGreat
open Go.RowKit
set_option linter.unusedVariables false

theorem bytesOf_rd {w : World} {v : Value} {bs : List Nat} (h : Rd w v bs) : (Extern.Bytes.bytesOf v).run Tryz.prog w = .ok ⟨(Lib.bytesOf (bs.map fun n : Nat => (n : Int))).toArray⟩ w := by
 obtain ⟨hby, a, cap, rfl, hle, hm, hl48, hnone, hat⟩ := h
 cases a with
 | none =>
  have hb0 : bs = [] := by
   rcases hnone with h | ⟨b, off, h⟩
   ·exact List.eq_nil_of_length_eq_zero (by omega)
   ·cases h
  subst hb0
  rfl
 | some x =>
  have hi := ints_at hat
  have := Lib.run_loadBytesX (P := Tryz.prog) w (bs.map fun n : Nat => (n : Int)) x .empty (fun j y hj => by
   have hjl : j < bs.length := by
    have := (List.getElem?_eq_some_iff.1 hj).1
    simpa using this
   rw [hi j hjl]
   simp [List.getD, hj])
  simp only [List.length_map] at this
  show (Extern.Bytes.loadBytes x bs.length .empty).run Tryz.prog w = _
  rw [this]
  simp
theorem compare_ordC : ∀ (xs ys : List Nat), Bys xs → Bys ys → Lib.compareBytes (Lib.bytesOf (xs.map fun n : Nat => (n : Int))) (Lib.bytesOf (ys.map fun n : Nat => (n : Int))) = ordC xs ys
 | [], [], _, _ => rfl
 | [], _ :: _, _, _ => rfl
 | _ :: _, [], _, _ => rfl
 | a :: r1, b :: r2, ha, hb => by
  have ih := compare_ordC r1 r2 (fun x hx => ha x (by simp [hx])) (fun x hx => hb x (by simp [hx]))
  have h1 := ha a (by simp)
  have h2 := hb b (by simp)
  have e1 : ∀ c : Nat, c < 256 → ∀ d : Nat, d < 256 → ((c : Int).toNat.toUInt8 < (d : Int).toNat.toUInt8 ↔ c < d) := by
   intro c hc d hd
   simp [UInt8.lt_iff_toNat_lt, Nat.toUInt8, Nat.mod_eq_of_lt hc, Nat.mod_eq_of_lt hd]
  show (if (a : Int).toNat.toUInt8 < (b : Int).toNat.toUInt8 then -1 else if (b : Int).toNat.toUInt8 < (a : Int).toNat.toUInt8 then 1 else Lib.compareBytes (Lib.bytesOf (r1.map fun n : Nat => (n : Int))) (Lib.bytesOf (r2.map fun n : Nat => (n : Int)))) = ordC (a :: r1) (b :: r2)
  rw [ih]
  simp only [e1 a h1 b h2, e1 b h2 a h1]
  rfl

set_option maxRecDepth 100000 in
set_option maxHeartbeats 1000000 in
theorem bytesCompare_any {va vb : Value} {xs ys : List Nat} {w : World} (ha : Rd w va xs) (hb : Rd w vb ys) :
  Calls Tryz.prog 60 #[va, vb] w fun e w' => e = .returned (.int .i64 (ordC xs ys)) ∧ w' = w := by
 have h1 := bytesOf_rd ha
 have h2 := bytesOf_rd hb
 have hcmp : (Extern.BytealgCompare.compare #[va, vb]).run Tryz.prog w = .ok (.int .i64 (ordC xs ys)) w := by
  change Sem.run Tryz.prog (do pure (goInt (Extern.BytealgCompare.cmp (← Extern.Bytes.bytesOf va) (← Extern.Bytes.bytesOf vb)))) w = _
  simp only [Sem.run_bind, h1, h2, Sem.run_pure, Result.andThen]
  rw [Lib.cmp_eq, ← compare_ordC xs ys ha.1 hb.1]
  rfl
 have HCMP : Hid ((Extern.BytealgCompare.compare #[va, vb]).run Tryz.prog w = .ok (.int .i64 (ordC xs ys)) w) := hcmp
 clear h1 h2 hcmp
 go_enter Tryz.func60, Tryz.ntmps60
 go_wp2
 rw [run_callFunc_extern Tryz.func83 (by kernel_rfl) (by kernel_rfl) (by kernel_rfl) (e := Extern.BytealgCompare.compare) (by kernel_rfl), HCMP.out]
 simp only [Result.andThen]
 rw [Oper.upon_value]
 go_wp2
 go_ret
 exact ⟨rfl, rfl⟩

def cmpI (a b : Int) : Int := if a < b then -1 else if b < a then 1 else 0
theorem isNaN_int (a : Int) (w : World) : Calls Tryz.prog 84 #[.int .i64 a] w fun e w' => e = .returned (.bool false) ∧ w' = w := by
 go_enter Tryz.func84, Tryz.ntmps84
 go_wp2
 go_ret
 exact ⟨by simp, rfl⟩
theorem isNaN_byte (a : Int) (w : World) : Calls Tryz.prog 91 #[.int .u8 a] w fun e w' => e = .returned (.bool false) ∧ w' = w := by
 go_enter Tryz.func91, Tryz.ntmps91
 go_wp2
 go_ret
 exact ⟨by simp, rfl⟩
set_option maxHeartbeats 1000000 in
theorem cmpInt_any (a b : Int) (w : World) : Calls Tryz.prog 62 #[.int .i64 a, .int .i64 b] w fun e w' => e = .returned (.int .i64 (cmpI a b)) ∧ w' = w := by
 by_cases h1 : a < b
 ·have HE : Hid (cmpI a b = -1) := by unfold Hid cmpI; rw [if_pos h1]
  go_enter Tryz.func62, Tryz.ntmps62
  go_wp2_with (go_at_call 84; refine (isNaN_int _ _).mono ?_; rintro e1 w1 ⟨rfl, rfl⟩)
  go_ret
  exact ⟨by rw [HE.out]; rfl, rfl⟩
 ·by_cases h2 : b < a
  ·have HE : Hid (cmpI a b = 1) := by unfold Hid cmpI; rw [if_neg h1, if_pos h2]
   have h3 : b ≤ a := by omega
   clear h1
   go_enter Tryz.func62, Tryz.ntmps62
   go_wp2_with (go_at_call 84; refine (isNaN_int _ _).mono ?_; rintro e1 w1 ⟨rfl, rfl⟩)
   go_ret
   exact ⟨by rw [HE.out]; rfl, rfl⟩
  ·have HE : Hid (cmpI a b = 0) := by unfold Hid cmpI; rw [if_neg h1, if_neg h2]
   obtain rfl : a = b := by omega
   clear h1 h2
   go_enter Tryz.func62, Tryz.ntmps62
   go_wp2_with (go_at_call 84; refine (isNaN_int _ _).mono ?_; rintro e1 w1 ⟨rfl, rfl⟩)
   go_ret
   exact ⟨by rw [HE.out]; rfl, rfl⟩
set_option maxHeartbeats 1000000 in
theorem cmpByte_any (a b : Int) (w : World) : Calls Tryz.prog 85 #[.int .u8 a, .int .u8 b] w fun e w' => e = .returned (.int .i64 (cmpI a b)) ∧ w' = w := by
 by_cases h1 : a < b
 ·have HE : Hid (cmpI a b = -1) := by unfold Hid cmpI; rw [if_pos h1]
  go_enter Tryz.func85, Tryz.ntmps85
  go_wp2_with (go_at_call 91; refine (isNaN_byte _ _).mono ?_; rintro e1 w1 ⟨rfl, rfl⟩)
  go_ret
  exact ⟨by rw [HE.out]; rfl, rfl⟩
 ·by_cases h2 : b < a
  ·have HE : Hid (cmpI a b = 1) := by unfold Hid cmpI; rw [if_neg h1, if_pos h2]
   have h3 : b ≤ a := by omega
   clear h1
   go_enter Tryz.func85, Tryz.ntmps85
   go_wp2_with (go_at_call 91; refine (isNaN_byte _ _).mono ?_; rintro e1 w1 ⟨rfl, rfl⟩)
   go_ret
   exact ⟨by rw [HE.out]; rfl, rfl⟩
  ·have HE : Hid (cmpI a b = 0) := by unfold Hid cmpI; rw [if_neg h1, if_neg h2]
   obtain rfl : a = b := by omega
   clear h1 h2
   go_enter Tryz.func85, Tryz.ntmps85
   go_wp2_with (go_at_call 91; refine (isNaN_byte _ _).mono ?_; rintro e1 w1 ⟨rfl, rfl⟩)
   go_ret
   exact ⟨by rw [HE.out]; rfl, rfl⟩

end Go.Proofs.YtpabbnddeklpdaaGreat

namespace Go.Proofs.YtpabbnddeklpdaaGreat
open Go.RowKit
set_option linter.unusedVariables false

def aheadS (a b : EntD) (k : Int) : Int := cmpI ((mark a.kind k : Nat) : Int) ((mark b.kind k : Nat) : Int)
theorem markOf_m (k a : Int) (w : World) : Calls Tryz.prog 78 #[.int .i64 k, .int .i64 a] w fun e w' => e = .returned (.int .u8 ((mark k a : Nat) : Int)) ∧ w' = w := markOf_any k a w

set_option maxRecDepth 100000 in
set_option maxHeartbeats 2000000 in
theorem aheadIf_any {a b : EntD} (k : Int) {w : World} :
  Calls Tryz.prog 64 #[.agg a.cells, .agg b.cells, .int .i64 k] w fun r w' => r = .returned (.int .i64 (aheadS a b k)) ∧ Below w.heap.size w w' := by
 obtain ⟨S, hS⟩ : ∃ S, S = aheadS a b k := ⟨_, rfl⟩
 rw [← hS]
 have HS : Hid (cmpI ((mark a.kind k : Nat) : Int) ((mark b.kind k : Nat) : Int) = S) := by unfold Hid; rw [hS]; rfl
 clear hS
 obtain ⟨M1, hM1⟩ : ∃ M, M = mark a.kind k := ⟨_, rfl⟩
 obtain ⟨M2, hM2⟩ : ∃ M, M = mark b.kind k := ⟨_, rfl⟩
 have q1 := fun w => markOf_m a.kind k w
 have q2 := fun w => markOf_m b.kind k w
 have q3 := fun w => cmpByte_any (M1 : Int) (M2 : Int) w
 rw [← hM1] at q1
 rw [← hM2] at q2
 have HS2 : cmpI (M1 : Int) (M2 : Int) = S := by rw [hM1, hM2]; exact HS.out
 rw [HS2] at q3
 have HQ1 : Hid (∀ w, Calls Tryz.prog 78 #[.int .i64 a.kind, .int .i64 k] w fun e w' => e = .returned (.int .u8 ((M1 : Nat) : Int)) ∧ w' = w) := q1
 have HQ2 : Hid (∀ w, Calls Tryz.prog 78 #[.int .i64 b.kind, .int .i64 k] w fun e w' => e = .returned (.int .u8 ((M2 : Nat) : Int)) ∧ w' = w) := q2
 have HQ3 : Hid (∀ w, Calls Tryz.prog 85 #[.int .u8 (M1 : Int), .int .u8 (M2 : Int)] w fun e w' => e = .returned (.int .i64 S) ∧ w' = w) := q3
 clear q1 q2 q3 hM1 hM2 HS HS2
 have A1 := (Below.refl w.heap.size w).alloc (Nat.le_refl _) (.cells a.cells 38)
 have A2 := A1.alloc A1.size (.cells b.cells 38)
 have bxa : Hid (EBox ((w.alloc (.cells a.cells 38)).alloc (.cells b.cells 38)) w.heap.size a) := (EBox.new w a).later ((Below.refl _ _).alloc (Nat.le_refl _) _)
 have bxb : Hid (EBox ((w.alloc (.cells a.cells 38)).alloc (.cells b.cells 38)) (w.heap.size + 1) b) := by
  have := EBox.new (w.alloc (.cells a.cells 38)) b
  rwa [World.size_alloc] at this
 have A2D : Below w.heap.size w ((w.alloc (.cells a.cells 38)).alloc (.cells b.cells 38)).drew := A2.drew
 have ya : ((w.alloc (.cells a.cells 38)).alloc (.cells b.cells 38)).drew.cell? ⟨w.heap.size, 5, none⟩ = some (.int .i64 a.kind) := bxa.out.kind
 have yb : ((w.alloc (.cells a.cells 38)).alloc (.cells b.cells 38)).drew.cell? ⟨w.heap.size + 1, 5, none⟩ = some (.int .i64 b.kind) := bxb.out.kind
 clear A1 bxa bxb
 obtain ⟨vr, fam, vq, ts, seq, ka, vv, row, qual, val⟩ := a
 obtain ⟨vr2, fam2, vq2, ts2, seq2, kb, vv2, row2, qual2, val2⟩ := b
 simp only [EntD.cells] at *
 go_enter Tryz.func64, Tryz.ntmps64
 go_wp2_with fail
 go_region_held3 (fun wx => wx.cell? ⟨w.heap.size, 5, none⟩ = some (.int .i64 ka) ∧ wx.cell? ⟨w.heap.size + 1, 5, none⟩ = some (.int .i64 kb) ∧ Below w.heap.size w wx) (first | exact ⟨ya, yb, A2D⟩) (first | (go_at_call 78; refine (HQ1.out _).mono ?_; rintro e1 wm ⟨rfl, rfl⟩) | (go_at_call 78; refine (HQ2.out _).mono ?_; rintro e1 wm ⟨rfl, rfl⟩) | (go_at_call 85; refine (HQ3.out _).mono ?_; rintro e1 wm ⟨rfl, rfl⟩))
 all_goals (go_wp2; go_ret; exact ⟨rfl, A2D⟩)

set_option maxRecDepth 100000 in
set_option maxHeartbeats 1000000 in
theorem ord1_any {a b : EntD} {w : World} (ha : EntD.Ok w a) (hb : EntD.Ok w b) :
  Calls Tryz.prog 59 #[.agg a.cells, .agg b.cells] w fun r w' => r = .returned (.int .i64 (ordC a.row b.row)) ∧ Below w.heap.size w w' := by
 have A1 := (Below.refl w.heap.size w).alloc (Nat.le_refl _) (.cells a.cells 38)
 have A2 := A1.alloc A1.size (.cells b.cells 38)
 have oa := ha.later A2
 have ob := hb.later A2
 clear A1 ha hb
 obtain ⟨vr, fam, vq, ts, seq, ka, vv, row, qual, val⟩ := a
 obtain ⟨vr2, fam2, vq2, ts2, seq2, kb, vv2, row2, qual2, val2⟩ := b
 obtain ⟨r1, q1, v1⟩ := oa
 obtain ⟨r2, q2, v2⟩ := ob
 simp only [EntD.cells] at *
 go_enter Tryz.func59, Tryz.ntmps59
 go_wp2_with fail
 refine (bytesCompare_any r1 r2).mono ?_
 rintro e1 w1 ⟨rfl, rfl⟩
 go_wp2
 go_ret
 exact ⟨rfl, A2⟩

set_option maxRecDepth 100000 in
set_option maxHeartbeats 1000000 in
theorem ord2_any {a b : EntD} {w : World} (ha : EntD.Ok w a) (hb : EntD.Ok w b) :
  Calls Tryz.prog 61 #[.agg a.cells, .agg b.cells] w fun r w' => r = .returned (.int .i64 (cmpI a.fam b.fam)) ∧ Below w.heap.size w w' := by
 have A1 := (Below.refl w.heap.size w).alloc (Nat.le_refl _) (.cells a.cells 38)
 have A2 := A1.alloc A1.size (.cells b.cells 38)
 have oa := ha.later A2
 have ob := hb.later A2
 clear A1 ha hb
 obtain ⟨vr, fam, vq, ts, seq, ka, vv, row, qual, val⟩ := a
 obtain ⟨vr2, fam2, vq2, ts2, seq2, kb, vv2, row2, qual2, val2⟩ := b
 obtain ⟨r1, q1, v1⟩ := oa
 obtain ⟨r2, q2, v2⟩ := ob
 simp only [EntD.cells] at *
 go_enter Tryz.func61, Tryz.ntmps61
 go_wp2_with fail
 refine (cmpInt_any _ _ _).mono ?_
 rintro e1 w1 ⟨rfl, rfl⟩
 go_wp2
 go_ret
 exact ⟨rfl, A2⟩

set_option maxRecDepth 100000 in
set_option maxHeartbeats 1000000 in
theorem ord3_any {a b : EntD} {w : World} (ha : EntD.Ok w a) (hb : EntD.Ok w b) :
  Calls Tryz.prog 63 #[.agg a.cells, .agg b.cells] w fun r w' => r = .returned (.int .i64 (aheadS a b 5)) ∧ Below w.heap.size w w' := by
 have A1 := (Below.refl w.heap.size w).alloc (Nat.le_refl _) (.cells a.cells 38)
 have A2 := A1.alloc A1.size (.cells b.cells 38)
 have oa := ha.later A2
 have ob := hb.later A2
 clear A1 ha hb
 have c1 := aheadIf_any (a := a) (b := b) 5 (w := (w.alloc (.cells a.cells 38)).alloc (.cells b.cells 38))
 obtain ⟨S, hS⟩ : ∃ S, S = aheadS a b 5 := ⟨_, rfl⟩
 rw [← hS] at c1 ⊢
 have HC : Hid (Calls Tryz.prog 64 #[.agg a.cells, .agg b.cells, .int .i64 5] ((w.alloc (.cells a.cells 38)).alloc (.cells b.cells 38)) fun r w' => r = .returned (.int .i64 S) ∧ Below ((w.alloc (.cells a.cells 38)).alloc (.cells b.cells 38)).heap.size ((w.alloc (.cells a.cells 38)).alloc (.cells b.cells 38)) w') := c1
 clear c1 hS
 obtain ⟨vr, fam, vq, ts, seq, ka, vv, row, qual, val⟩ := a
 obtain ⟨vr2, fam2, vq2, ts2, seq2, kb, vv2, row2, qual2, val2⟩ := b
 obtain ⟨r1, q1, v1⟩ := oa
 obtain ⟨r2, q2, v2⟩ := ob
 simp only [EntD.cells] at *
 go_enter Tryz.func63, Tryz.ntmps63
 go_wp2_with fail
 refine HC.out.mono ?_
 rintro e1 w1 ⟨rfl, hb1⟩
 have B1 := A2.trans (hb1.mono A2.size)
 go_wp2
 go_ret
 exact ⟨rfl, B1⟩

set_option maxRecDepth 100000 in
set_option maxHeartbeats 1000000 in
theorem ord4_any {a b : EntD} {w : World} (ha : EntD.Ok w a) (hb : EntD.Ok w b) :
  Calls Tryz.prog 65 #[.agg a.cells, .agg b.cells] w fun r w' => r = .returned (.int .i64 (ordC a.qual b.qual)) ∧ Below w.heap.size w w' := by
 have A1 := (Below.refl w.heap.size w).alloc (Nat.le_refl _) (.cells a.cells 38)
 have A2 := A1.alloc A1.size (.cells b.cells 38)
 have oa := ha.later A2
 have ob := hb.later A2
 clear A1 ha hb
 obtain ⟨vr, fam, vq, ts, seq, ka, vv, row, qual, val⟩ := a
 obtain ⟨vr2, fam2, vq2, ts2, seq2, kb, vv2, row2, qual2, val2⟩ := b
 obtain ⟨r1, q1, v1⟩ := oa
 obtain ⟨r2, q2, v2⟩ := ob
 simp only [EntD.cells] at *
 go_enter Tryz.func65, Tryz.ntmps65
 go_wp2_with fail
 refine (bytesCompare_any q1 q2).mono ?_
 rintro e1 w1 ⟨rfl, rfl⟩
 go_wp2
 go_ret
 exact ⟨rfl, A2⟩

set_option maxRecDepth 100000 in
set_option maxHeartbeats 1000000 in
theorem ord5_any {a b : EntD} {w : World} (ha : EntD.Ok w a) (hb : EntD.Ok w b) :
  Calls Tryz.prog 66 #[.agg a.cells, .agg b.cells] w fun r w' => r = .returned (.int .i64 (aheadS a b 4)) ∧ Below w.heap.size w w' := by
 have A1 := (Below.refl w.heap.size w).alloc (Nat.le_refl _) (.cells a.cells 38)
 have A2 := A1.alloc A1.size (.cells b.cells 38)
 have oa := ha.later A2
 have ob := hb.later A2
 clear A1 ha hb
 have c1 := aheadIf_any (a := a) (b := b) 4 (w := (w.alloc (.cells a.cells 38)).alloc (.cells b.cells 38))
 obtain ⟨S, hS⟩ : ∃ S, S = aheadS a b 4 := ⟨_, rfl⟩
 rw [← hS] at c1 ⊢
 have HC : Hid (Calls Tryz.prog 64 #[.agg a.cells, .agg b.cells, .int .i64 4] ((w.alloc (.cells a.cells 38)).alloc (.cells b.cells 38)) fun r w' => r = .returned (.int .i64 S) ∧ Below ((w.alloc (.cells a.cells 38)).alloc (.cells b.cells 38)).heap.size ((w.alloc (.cells a.cells 38)).alloc (.cells b.cells 38)) w') := c1
 clear c1 hS
 obtain ⟨vr, fam, vq, ts, seq, ka, vv, row, qual, val⟩ := a
 obtain ⟨vr2, fam2, vq2, ts2, seq2, kb, vv2, row2, qual2, val2⟩ := b
 obtain ⟨r1, q1, v1⟩ := oa
 obtain ⟨r2, q2, v2⟩ := ob
 simp only [EntD.cells] at *
 go_enter Tryz.func66, Tryz.ntmps66
 go_wp2_with fail
 refine HC.out.mono ?_
 rintro e1 w1 ⟨rfl, hb1⟩
 have B1 := A2.trans (hb1.mono A2.size)
 go_wp2
 go_ret
 exact ⟨rfl, B1⟩

set_option maxRecDepth 100000 in
set_option maxHeartbeats 1000000 in
theorem ord6_any {a b : EntD} {w : World} (ha : EntD.Ok w a) (hb : EntD.Ok w b) :
  Calls Tryz.prog 67 #[.agg a.cells, .agg b.cells] w fun r w' => r = .returned (.int .i64 (cmpI b.ts a.ts)) ∧ Below w.heap.size w w' := by
 have A1 := (Below.refl w.heap.size w).alloc (Nat.le_refl _) (.cells a.cells 38)
 have A2 := A1.alloc A1.size (.cells b.cells 38)
 have oa := ha.later A2
 have ob := hb.later A2
 clear A1 ha hb
 obtain ⟨vr, fam, vq, ts, seq, ka, vv, row, qual, val⟩ := a
 obtain ⟨vr2, fam2, vq2, ts2, seq2, kb, vv2, row2, qual2, val2⟩ := b
 obtain ⟨r1, q1, v1⟩ := oa
 obtain ⟨r2, q2, v2⟩ := ob
 simp only [EntD.cells] at *
 go_enter Tryz.func67, Tryz.ntmps67
 go_wp2_with fail
 refine (cmpInt_any _ _ _).mono ?_
 rintro e1 w1 ⟨rfl, rfl⟩
 go_wp2
 go_ret
 exact ⟨rfl, A2⟩

set_option maxRecDepth 100000 in
set_option maxHeartbeats 1000000 in
theorem ord7_any {a b : EntD} {w : World} (ha : EntD.Ok w a) (hb : EntD.Ok w b) :
  Calls Tryz.prog 68 #[.agg a.cells, .agg b.cells] w fun r w' => r = .returned (.int .i64 (cmpI b.seq a.seq)) ∧ Below w.heap.size w w' := by
 have A1 := (Below.refl w.heap.size w).alloc (Nat.le_refl _) (.cells a.cells 38)
 have A2 := A1.alloc A1.size (.cells b.cells 38)
 have oa := ha.later A2
 have ob := hb.later A2
 clear A1 ha hb
 obtain ⟨vr, fam, vq, ts, seq, ka, vv, row, qual, val⟩ := a
 obtain ⟨vr2, fam2, vq2, ts2, seq2, kb, vv2, row2, qual2, val2⟩ := b
 obtain ⟨r1, q1, v1⟩ := oa
 obtain ⟨r2, q2, v2⟩ := ob
 simp only [EntD.cells] at *
 go_enter Tryz.func68, Tryz.ntmps68
 go_wp2_with fail
 refine (cmpInt_any _ _ _).mono ?_
 rintro e1 w1 ⟨rfl, rfl⟩
 go_wp2
 go_ret
 exact ⟨rfl, A2⟩

set_option maxRecDepth 100000 in
set_option maxHeartbeats 1000000 in
theorem ord8_any {a b : EntD} {w : World} (ha : EntD.Ok w a) (hb : EntD.Ok w b) :
  Calls Tryz.prog 69 #[.agg a.cells, .agg b.cells] w fun r w' => r = .returned (.int .i64 (cmpI a.kind b.kind)) ∧ Below w.heap.size w w' := by
 have A1 := (Below.refl w.heap.size w).alloc (Nat.le_refl _) (.cells a.cells 38)
 have A2 := A1.alloc A1.size (.cells b.cells 38)
 have oa := ha.later A2
 have ob := hb.later A2
 clear A1 ha hb
 obtain ⟨vr, fam, vq, ts, seq, ka, vv, row, qual, val⟩ := a
 obtain ⟨vr2, fam2, vq2, ts2, seq2, kb, vv2, row2, qual2, val2⟩ := b
 obtain ⟨r1, q1, v1⟩ := oa
 obtain ⟨r2, q2, v2⟩ := ob
 simp only [EntD.cells] at *
 go_enter Tryz.func69, Tryz.ntmps69
 go_wp2_with fail
 refine (cmpInt_any _ _ _).mono ?_
 rintro e1 w1 ⟨rfl, rfl⟩
 go_wp2
 go_ret
 exact ⟨rfl, A2⟩

end Go.Proofs.YtpabbnddeklpdaaGreat

namespace Go.Proofs.YtpabbnddeklpdaaGreat
open Go.RowKit
set_option linter.unusedVariables false

def cmpsS (a b : EntD) : List Int := [ordC a.row b.row, cmpI a.fam b.fam, aheadS a b 5, ordC a.qual b.qual, aheadS a b 4, cmpI b.ts a.ts, cmpI b.seq a.seq, cmpI a.kind b.kind]
def firstNZ : List Int → Int
 | [] => 0
 | x :: r => if x = 0 then firstNZ r else x
def compareS (a b : EntD) : Int := firstNZ (cmpsS a b)
theorem firstNZ_at : ∀ (l : List Int) (t : Nat), (∀ j, j < t → l.getD j 0 = 0) → l.getD t 0 ≠ 0 → firstNZ l = l.getD t 0
 | [], t, _, h => by simp at h
 | x :: r, 0, _, h => by simp at h ⊢; simp [firstNZ, h]
 | x :: r, t + 1, h0, h => by
  have hx : x = 0 := by simpa using h0 0 (by omega)
  have := firstNZ_at r t (fun j hj => by simpa using h0 (j + 1) (by omega)) (by simpa using h)
  simp [firstNZ, hx]
  simpa using this
theorem firstNZ_none : ∀ (l : List Int), (∀ j, j < l.length → l.getD j 0 = 0) → firstNZ l = 0
 | [], _ => rfl
 | x :: r, h => by
  have hx : x = 0 := by simpa using h 0 (by simp)
  have := firstNZ_none r (fun j hj => by simpa using h (j + 1) (by simp; omega))
  simp [firstNZ, hx, this]

set_option maxRecDepth 100000 in
set_option maxHeartbeats 1000000 in
theorem order_fns (w : World) : Calls Tryz.prog 42 #[] w fun r w' => r = .returned (.agg #[.func (.func 59) #[] #[], .func (.func 61) #[] #[], .func (.func 63) #[] #[], .func (.func 65) #[] #[], .func (.func 66) #[] #[], .func (.func 67) #[] #[], .func (.func 68) #[] #[], .func (.func 69) #[] #[]]) ∧ Below w.heap.size w w' := by
 have A1 := (Below.refl w.heap.size w).alloc (Nat.le_refl _) (.cells #[.func (.func 59) #[] #[], .func (.func 61) #[] #[], .func (.func 63) #[] #[], .func (.func 65) #[] #[], .func (.func 66) #[] #[], .func (.func 67) #[] #[], .func (.func 68) #[] #[], .func (.func 69) #[] #[]] 77)
 go_enter Tryz.func42, Tryz.ntmps42
 go_wp2
 go_returns
 exact ⟨rfl, A1⟩

set_option maxRecDepth 100000 in
set_option maxHeartbeats 8000000 in
theorem compare_any {a b : EntD} {w : World} (ha : EntD.Ok w a) (hb : EntD.Ok w b) :
  Calls Tryz.prog 22 #[.agg a.cells, .agg b.cells] w fun r w' => r = .returned (.int .i64 (compareS a b)) ∧ Below w.heap.size w w' := by
 have A1 := (Below.refl w.heap.size w).alloc (Nat.le_refl _) (.cells a.cells 38)
 have A2 := A1.alloc A1.size (.cells b.cells 38)
 have bxa0 := (EBox.new w a).later ((Below.refl (w.alloc (.cells a.cells 38)).heap.size (w.alloc (.cells a.cells 38))).alloc (Nat.le_refl _) (.cells b.cells 38))
 have bxb0 := EBox.new (w.alloc (.cells a.cells 38)) b
 rw [World.size_alloc] at bxb0
 have BXA0 : Hid (EBox _ w.heap.size a) := bxa0
 have BXB0 : Hid (EBox _ (w.heap.size + 1) b) := bxb0
 have HA : Hid (EntD.Ok w a) := ha
 have HB : Hid (EntD.Ok w b) := hb
 obtain ⟨va, hva⟩ : ∃ v, v = a.cells := ⟨_, rfl⟩
 clear A1 bxa0 bxb0 ha hb hva va
 go_enter Tryz.func22, Tryz.ntmps22
 go_wp2_with fail
 refine (order_fns _).mono ?_
 rintro e1 w1 ⟨rfl, hb1⟩
 have B1 := A2.trans (hb1.mono A2.size)
 have BXA1 := BXA0.out.later hb1
 have BXB1 := BXB0.out.later hb1
 clear A2 BXA0 BXB0 hb1
 go_wp2
 go_loopw [6, 7, 9] (fun f n i wr => ∃ t : Nat, t ≤ 8 ∧ i = .int .i64 (t : Int) ∧ (∀ j, j < t → (cmpsS a b).getD j 0 = 0) ∧ EBox wr w.heap.size a ∧ EBox wr (w.heap.size + 1) b ∧ Below w.heap.size w wr) (fun _ _ i _ => 8 - (intOf i).toNat)
 case atStart => exact ⟨0, by omega, rfl, fun j hj => by omega, BXA1, BXB1, B1⟩
 case round =>
  obtain ⟨t, ht8, rfl, hz, bxa, bxb, hb1⟩ := hrel
  have HZ : Hid (∀ j, j < t → (cmpsS a b).getD j 0 = 0) := hz
  have BXA : Hid (EBox wr w.heap.size a) := bxa
  have BXB : Hid (EBox wr (w.heap.size + 1) b) := bxb
  clear hz
  by_cases hlt : t < 8
  ·obtain ⟨S, hS⟩ : ∃ S, S = (cmpsS a b).getD t 0 := ⟨_, rfl⟩
   have HS : Hid (S = (cmpsS a b).getD t 0) := hS
   clear hS
   have ca0 := bxa.vr
   have ca1 := bxa.fam
   have ca2 := bxa.vq
   have ca3 := bxa.ts
   have ca4 := bxa.seq
   have ca5 := bxa.kind
   have ca6 := bxa.vv
   have cb0 := bxb.vr
   have cb1 := bxb.fam
   have cb2 := bxb.vq
   have cb3 := bxb.ts
   have cb4 := bxb.seq
   have cb5 := bxb.kind
   have cb6 := bxb.vv
   rcases (show t = 0 ∨ t = 1 ∨ t = 2 ∨ t = 3 ∨ t = 4 ∨ t = 5 ∨ t = 6 ∨ t = 7 by omega) with rfl | rfl | rfl | rfl | rfl | rfl | rfl | rfl
   ·have HC : Hid (∀ w2, Below w.heap.size w w2 → Calls Tryz.prog 59 #[.agg a.cells, .agg b.cells] w2 fun r w' => r = .returned (.int .i64 S) ∧ Below w2.heap.size w2 w') := fun w2 h2 => by rw [HS.out]; exact ord1_any (HA.out.later h2) (HB.out.later h2)
    have hidx : ∀ w, (Instr.index 77 (.agg #[.func (.func 59) #[] #[], .func (.func 61) #[] #[], .func (.func 63) #[] #[], .func (.func 65) #[] #[], .func (.func 66) #[] #[], .func (.func 67) #[] #[], .func (.func 68) #[] #[], .func (.func 69) #[] #[]]) (.int .i64 0)).run Tryz.prog w = .ok (.func (.func 59) #[] #[]) w := fun _ => by kernel_rfl
    by_cases hz : S = 0
    ·have HZ2 : Hid (∀ j, j < 1 → (cmpsS a b).getD j 0 = 0) := fun j hj => by
      by_cases h : j < 0
      ·exact HZ.out j h
      ·obtain rfl : j = 0 := by omega
       rw [← HS.out]; exact hz
     subst hz
     have HC2 := HC.out wr hb1
     have HC3 : Hid (Calls Tryz.prog 59 #[.agg a.cells, .agg b.cells] wr fun r w' => r = .returned (.int .i64 0) ∧ Below wr.heap.size wr w') := HC2
     clear HC HC2 HS
     simp only [EntD.cells] at bxa bxb HC3
     go_wp2_with fail
     refine HC3.out.mono ?_
     rintro e2 w2 ⟨rfl, hb2⟩
     have B2 := hb1.trans (hb2.mono hb1.size)
     have bxa2 := BXA.out.later hb2
     have bxb2 := BXB.out.later hb2
     go_wp2
     go_roundw
     case rel => exact ⟨1, by omega, by go_num, HZ2.out, bxa2, bxb2, B2⟩
     case measure => simp [intOf]
    ·have HR : Hid (compareS a b = S) := by unfold Hid compareS; rw [firstNZ_at _ 0 HZ.out (by rw [← HS.out]; exact hz), HS.out]
     have hz1 : (S != 0) = true := by simp; exact hz
     have HC2 := HC.out wr hb1
     have HC3 : Hid (Calls Tryz.prog 59 #[.agg a.cells, .agg b.cells] wr fun r w' => r = .returned (.int .i64 S) ∧ Below wr.heap.size wr w') := HC2
     clear HC HC2 HS
     simp only [EntD.cells] at bxa bxb HC3
     go_wp2_with fail
     refine HC3.out.mono ?_
     rintro e2 w2 ⟨rfl, hb2⟩
     have B2 := hb1.trans (hb2.mono hb1.size)
     go_wp2
     go_ret
     exact ⟨by rw [HR.out]; rfl, B2⟩
   ·have HC : Hid (∀ w2, Below w.heap.size w w2 → Calls Tryz.prog 61 #[.agg a.cells, .agg b.cells] w2 fun r w' => r = .returned (.int .i64 S) ∧ Below w2.heap.size w2 w') := fun w2 h2 => by rw [HS.out]; exact ord2_any (HA.out.later h2) (HB.out.later h2)
    have hidx : ∀ w, (Instr.index 77 (.agg #[.func (.func 59) #[] #[], .func (.func 61) #[] #[], .func (.func 63) #[] #[], .func (.func 65) #[] #[], .func (.func 66) #[] #[], .func (.func 67) #[] #[], .func (.func 68) #[] #[], .func (.func 69) #[] #[]]) (.int .i64 1)).run Tryz.prog w = .ok (.func (.func 61) #[] #[]) w := fun _ => by kernel_rfl
    by_cases hz : S = 0
    ·have HZ2 : Hid (∀ j, j < 2 → (cmpsS a b).getD j 0 = 0) := fun j hj => by
      by_cases h : j < 1
      ·exact HZ.out j h
      ·obtain rfl : j = 1 := by omega
       rw [← HS.out]; exact hz
     subst hz
     have HC2 := HC.out wr hb1
     have HC3 : Hid (Calls Tryz.prog 61 #[.agg a.cells, .agg b.cells] wr fun r w' => r = .returned (.int .i64 0) ∧ Below wr.heap.size wr w') := HC2
     clear HC HC2 HS
     simp only [EntD.cells] at bxa bxb HC3
     go_wp2_with fail
     refine HC3.out.mono ?_
     rintro e2 w2 ⟨rfl, hb2⟩
     have B2 := hb1.trans (hb2.mono hb1.size)
     have bxa2 := BXA.out.later hb2
     have bxb2 := BXB.out.later hb2
     go_wp2
     go_roundw
     case rel => exact ⟨2, by omega, by go_num, HZ2.out, bxa2, bxb2, B2⟩
     case measure => simp [intOf]
    ·have HR : Hid (compareS a b = S) := by unfold Hid compareS; rw [firstNZ_at _ 1 HZ.out (by rw [← HS.out]; exact hz), HS.out]
     have hz1 : (S != 0) = true := by simp; exact hz
     have HC2 := HC.out wr hb1
     have HC3 : Hid (Calls Tryz.prog 61 #[.agg a.cells, .agg b.cells] wr fun r w' => r = .returned (.int .i64 S) ∧ Below wr.heap.size wr w') := HC2
     clear HC HC2 HS
     simp only [EntD.cells] at bxa bxb HC3
     go_wp2_with fail
     refine HC3.out.mono ?_
     rintro e2 w2 ⟨rfl, hb2⟩
     have B2 := hb1.trans (hb2.mono hb1.size)
     go_wp2
     go_ret
     exact ⟨by rw [HR.out]; rfl, B2⟩
   ·have HC : Hid (∀ w2, Below w.heap.size w w2 → Calls Tryz.prog 63 #[.agg a.cells, .agg b.cells] w2 fun r w' => r = .returned (.int .i64 S) ∧ Below w2.heap.size w2 w') := fun w2 h2 => by rw [HS.out]; exact ord3_any (HA.out.later h2) (HB.out.later h2)
    have hidx : ∀ w, (Instr.index 77 (.agg #[.func (.func 59) #[] #[], .func (.func 61) #[] #[], .func (.func 63) #[] #[], .func (.func 65) #[] #[], .func (.func 66) #[] #[], .func (.func 67) #[] #[], .func (.func 68) #[] #[], .func (.func 69) #[] #[]]) (.int .i64 2)).run Tryz.prog w = .ok (.func (.func 63) #[] #[]) w := fun _ => by kernel_rfl
    by_cases hz : S = 0
    ·have HZ2 : Hid (∀ j, j < 3 → (cmpsS a b).getD j 0 = 0) := fun j hj => by
      by_cases h : j < 2
      ·exact HZ.out j h
      ·obtain rfl : j = 2 := by omega
       rw [← HS.out]; exact hz
     subst hz
     have HC2 := HC.out wr hb1
     have HC3 : Hid (Calls Tryz.prog 63 #[.agg a.cells, .agg b.cells] wr fun r w' => r = .returned (.int .i64 0) ∧ Below wr.heap.size wr w') := HC2
     clear HC HC2 HS
     simp only [EntD.cells] at bxa bxb HC3
     go_wp2_with fail
     refine HC3.out.mono ?_
     rintro e2 w2 ⟨rfl, hb2⟩
     have B2 := hb1.trans (hb2.mono hb1.size)
     have bxa2 := BXA.out.later hb2
     have bxb2 := BXB.out.later hb2
     go_wp2
     go_roundw
     case rel => exact ⟨3, by omega, by go_num, HZ2.out, bxa2, bxb2, B2⟩
     case measure => simp [intOf]
    ·have HR : Hid (compareS a b = S) := by unfold Hid compareS; rw [firstNZ_at _ 2 HZ.out (by rw [← HS.out]; exact hz), HS.out]
     have hz1 : (S != 0) = true := by simp; exact hz
     have HC2 := HC.out wr hb1
     have HC3 : Hid (Calls Tryz.prog 63 #[.agg a.cells, .agg b.cells] wr fun r w' => r = .returned (.int .i64 S) ∧ Below wr.heap.size wr w') := HC2
     clear HC HC2 HS
     simp only [EntD.cells] at bxa bxb HC3
     go_wp2_with fail
     refine HC3.out.mono ?_
     rintro e2 w2 ⟨rfl, hb2⟩
     have B2 := hb1.trans (hb2.mono hb1.size)
     go_wp2
     go_ret
     exact ⟨by rw [HR.out]; rfl, B2⟩
   ·have HC : Hid (∀ w2, Below w.heap.size w w2 → Calls Tryz.prog 65 #[.agg a.cells, .agg b.cells] w2 fun r w' => r = .returned (.int .i64 S) ∧ Below w2.heap.size w2 w') := fun w2 h2 => by rw [HS.out]; exact ord4_any (HA.out.later h2) (HB.out.later h2)
    have hidx : ∀ w, (Instr.index 77 (.agg #[.func (.func 59) #[] #[], .func (.func 61) #[] #[], .func (.func 63) #[] #[], .func (.func 65) #[] #[], .func (.func 66) #[] #[], .func (.func 67) #[] #[], .func (.func 68) #[] #[], .func (.func 69) #[] #[]]) (.int .i64 3)).run Tryz.prog w = .ok (.func (.func 65) #[] #[]) w := fun _ => by kernel_rfl
    by_cases hz : S = 0
    ·have HZ2 : Hid (∀ j, j < 4 → (cmpsS a b).getD j 0 = 0) := fun j hj => by
      by_cases h : j < 3
      ·exact HZ.out j h
      ·obtain rfl : j = 3 := by omega
       rw [← HS.out]; exact hz
     subst hz
     have HC2 := HC.out wr hb1
     have HC3 : Hid (Calls Tryz.prog 65 #[.agg a.cells, .agg b.cells] wr fun r w' => r = .returned (.int .i64 0) ∧ Below wr.heap.size wr w') := HC2
     clear HC HC2 HS
     simp only [EntD.cells] at bxa bxb HC3
     go_wp2_with fail
     refine HC3.out.mono ?_
     rintro e2 w2 ⟨rfl, hb2⟩
     have B2 := hb1.trans (hb2.mono hb1.size)
     have bxa2 := BXA.out.later hb2
     have bxb2 := BXB.out.later hb2
     go_wp2
     go_roundw
     case rel => exact ⟨4, by omega, by go_num, HZ2.out, bxa2, bxb2, B2⟩
     case measure => simp [intOf]
    ·have HR : Hid (compareS a b = S) := by unfold Hid compareS; rw [firstNZ_at _ 3 HZ.out (by rw [← HS.out]; exact hz), HS.out]
     have hz1 : (S != 0) = true := by simp; exact hz
     have HC2 := HC.out wr hb1
     have HC3 : Hid (Calls Tryz.prog 65 #[.agg a.cells, .agg b.cells] wr fun r w' => r = .returned (.int .i64 S) ∧ Below wr.heap.size wr w') := HC2
     clear HC HC2 HS
     simp only [EntD.cells] at bxa bxb HC3
     go_wp2_with fail
     refine HC3.out.mono ?_
     rintro e2 w2 ⟨rfl, hb2⟩
     have B2 := hb1.trans (hb2.mono hb1.size)
     go_wp2
     go_ret
     exact ⟨by rw [HR.out]; rfl, B2⟩
   ·have HC : Hid (∀ w2, Below w.heap.size w w2 → Calls Tryz.prog 66 #[.agg a.cells, .agg b.cells] w2 fun r w' => r = .returned (.int .i64 S) ∧ Below w2.heap.size w2 w') := fun w2 h2 => by rw [HS.out]; exact ord5_any (HA.out.later h2) (HB.out.later h2)
    have hidx : ∀ w, (Instr.index 77 (.agg #[.func (.func 59) #[] #[], .func (.func 61) #[] #[], .func (.func 63) #[] #[], .func (.func 65) #[] #[], .func (.func 66) #[] #[], .func (.func 67) #[] #[], .func (.func 68) #[] #[], .func (.func 69) #[] #[]]) (.int .i64 4)).run Tryz.prog w = .ok (.func (.func 66) #[] #[]) w := fun _ => by kernel_rfl
    by_cases hz : S = 0
    ·have HZ2 : Hid (∀ j, j < 5 → (cmpsS a b).getD j 0 = 0) := fun j hj => by
      by_cases h : j < 4
      ·exact HZ.out j h
      ·obtain rfl : j = 4 := by omega
       rw [← HS.out]; exact hz
     subst hz
     have HC2 := HC.out wr hb1
     have HC3 : Hid (Calls Tryz.prog 66 #[.agg a.cells, .agg b.cells] wr fun r w' => r = .returned (.int .i64 0) ∧ Below wr.heap.size wr w') := HC2
     clear HC HC2 HS
     simp only [EntD.cells] at bxa bxb HC3
     go_wp2_with fail
     refine HC3.out.mono ?_
     rintro e2 w2 ⟨rfl, hb2⟩
     have B2 := hb1.trans (hb2.mono hb1.size)
     have bxa2 := BXA.out.later hb2
     have bxb2 := BXB.out.later hb2
     go_wp2
     go_roundw
     case rel => exact ⟨5, by omega, by go_num, HZ2.out, bxa2, bxb2, B2⟩
     case measure => simp [intOf]
    ·have HR : Hid (compareS a b = S) := by unfold Hid compareS; rw [firstNZ_at _ 4 HZ.out (by rw [← HS.out]; exact hz), HS.out]
     have hz1 : (S != 0) = true := by simp; exact hz
     have HC2 := HC.out wr hb1
     have HC3 : Hid (Calls Tryz.prog 66 #[.agg a.cells, .agg b.cells] wr fun r w' => r = .returned (.int .i64 S) ∧ Below wr.heap.size wr w') := HC2
     clear HC HC2 HS
     simp only [EntD.cells] at bxa bxb HC3
     go_wp2_with fail
     refine HC3.out.mono ?_
     rintro e2 w2 ⟨rfl, hb2⟩
     have B2 := hb1.trans (hb2.mono hb1.size)
     go_wp2
     go_ret
     exact ⟨by rw [HR.out]; rfl, B2⟩
   ·have HC : Hid (∀ w2, Below w.heap.size w w2 → Calls Tryz.prog 67 #[.agg a.cells, .agg b.cells] w2 fun r w' => r = .returned (.int .i64 S) ∧ Below w2.heap.size w2 w') := fun w2 h2 => by rw [HS.out]; exact ord6_any (HA.out.later h2) (HB.out.later h2)
    have hidx : ∀ w, (Instr.index 77 (.agg #[.func (.func 59) #[] #[], .func (.func 61) #[] #[], .func (.func 63) #[] #[], .func (.func 65) #[] #[], .func (.func 66) #[] #[], .func (.func 67) #[] #[], .func (.func 68) #[] #[], .func (.func 69) #[] #[]]) (.int .i64 5)).run Tryz.prog w = .ok (.func (.func 67) #[] #[]) w := fun _ => by kernel_rfl
    by_cases hz : S = 0
    ·have HZ2 : Hid (∀ j, j < 6 → (cmpsS a b).getD j 0 = 0) := fun j hj => by
      by_cases h : j < 5
      ·exact HZ.out j h
      ·obtain rfl : j = 5 := by omega
       rw [← HS.out]; exact hz
     subst hz
     have HC2 := HC.out wr hb1
     have HC3 : Hid (Calls Tryz.prog 67 #[.agg a.cells, .agg b.cells] wr fun r w' => r = .returned (.int .i64 0) ∧ Below wr.heap.size wr w') := HC2
     clear HC HC2 HS
     simp only [EntD.cells] at bxa bxb HC3
     go_wp2_with fail
     refine HC3.out.mono ?_
     rintro e2 w2 ⟨rfl, hb2⟩
     have B2 := hb1.trans (hb2.mono hb1.size)
     have bxa2 := BXA.out.later hb2
     have bxb2 := BXB.out.later hb2
     go_wp2
     go_roundw
     case rel => exact ⟨6, by omega, by go_num, HZ2.out, bxa2, bxb2, B2⟩
     case measure => simp [intOf]
    ·have HR : Hid (compareS a b = S) := by unfold Hid compareS; rw [firstNZ_at _ 5 HZ.out (by rw [← HS.out]; exact hz), HS.out]
     have hz1 : (S != 0) = true := by simp; exact hz
     have HC2 := HC.out wr hb1
     have HC3 : Hid (Calls Tryz.prog 67 #[.agg a.cells, .agg b.cells] wr fun r w' => r = .returned (.int .i64 S) ∧ Below wr.heap.size wr w') := HC2
     clear HC HC2 HS
     simp only [EntD.cells] at bxa bxb HC3
     go_wp2_with fail
     refine HC3.out.mono ?_
     rintro e2 w2 ⟨rfl, hb2⟩
     have B2 := hb1.trans (hb2.mono hb1.size)
     go_wp2
     go_ret
     exact ⟨by rw [HR.out]; rfl, B2⟩
   ·have HC : Hid (∀ w2, Below w.heap.size w w2 → Calls Tryz.prog 68 #[.agg a.cells, .agg b.cells] w2 fun r w' => r = .returned (.int .i64 S) ∧ Below w2.heap.size w2 w') := fun w2 h2 => by rw [HS.out]; exact ord7_any (HA.out.later h2) (HB.out.later h2)
    have hidx : ∀ w, (Instr.index 77 (.agg #[.func (.func 59) #[] #[], .func (.func 61) #[] #[], .func (.func 63) #[] #[], .func (.func 65) #[] #[], .func (.func 66) #[] #[], .func (.func 67) #[] #[], .func (.func 68) #[] #[], .func (.func 69) #[] #[]]) (.int .i64 6)).run Tryz.prog w = .ok (.func (.func 68) #[] #[]) w := fun _ => by kernel_rfl
    by_cases hz : S = 0
    ·have HZ2 : Hid (∀ j, j < 7 → (cmpsS a b).getD j 0 = 0) := fun j hj => by
      by_cases h : j < 6
      ·exact HZ.out j h
      ·obtain rfl : j = 6 := by omega
       rw [← HS.out]; exact hz
     subst hz
     have HC2 := HC.out wr hb1
     have HC3 : Hid (Calls Tryz.prog 68 #[.agg a.cells, .agg b.cells] wr fun r w' => r = .returned (.int .i64 0) ∧ Below wr.heap.size wr w') := HC2
     clear HC HC2 HS
     simp only [EntD.cells] at bxa bxb HC3
     go_wp2_with fail
     refine HC3.out.mono ?_
     rintro e2 w2 ⟨rfl, hb2⟩
     have B2 := hb1.trans (hb2.mono hb1.size)
     have bxa2 := BXA.out.later hb2
     have bxb2 := BXB.out.later hb2
     go_wp2
     go_roundw
     case rel => exact ⟨7, by omega, by go_num, HZ2.out, bxa2, bxb2, B2⟩
     case measure => simp [intOf]
    ·have HR : Hid (compareS a b = S) := by unfold Hid compareS; rw [firstNZ_at _ 6 HZ.out (by rw [← HS.out]; exact hz), HS.out]
     have hz1 : (S != 0) = true := by simp; exact hz
     have HC2 := HC.out wr hb1
     have HC3 : Hid (Calls Tryz.prog 68 #[.agg a.cells, .agg b.cells] wr fun r w' => r = .returned (.int .i64 S) ∧ Below wr.heap.size wr w') := HC2
     clear HC HC2 HS
     simp only [EntD.cells] at bxa bxb HC3
     go_wp2_with fail
     refine HC3.out.mono ?_
     rintro e2 w2 ⟨rfl, hb2⟩
     have B2 := hb1.trans (hb2.mono hb1.size)
     go_wp2
     go_ret
     exact ⟨by rw [HR.out]; rfl, B2⟩
   ·have HC : Hid (∀ w2, Below w.heap.size w w2 → Calls Tryz.prog 69 #[.agg a.cells, .agg b.cells] w2 fun r w' => r = .returned (.int .i64 S) ∧ Below w2.heap.size w2 w') := fun w2 h2 => by rw [HS.out]; exact ord8_any (HA.out.later h2) (HB.out.later h2)
    have hidx : ∀ w, (Instr.index 77 (.agg #[.func (.func 59) #[] #[], .func (.func 61) #[] #[], .func (.func 63) #[] #[], .func (.func 65) #[] #[], .func (.func 66) #[] #[], .func (.func 67) #[] #[], .func (.func 68) #[] #[], .func (.func 69) #[] #[]]) (.int .i64 7)).run Tryz.prog w = .ok (.func (.func 69) #[] #[]) w := fun _ => by kernel_rfl
    by_cases hz : S = 0
    ·have HZ2 : Hid (∀ j, j < 8 → (cmpsS a b).getD j 0 = 0) := fun j hj => by
      by_cases h : j < 7
      ·exact HZ.out j h
      ·obtain rfl : j = 7 := by omega
       rw [← HS.out]; exact hz
     subst hz
     have HC2 := HC.out wr hb1
     have HC3 : Hid (Calls Tryz.prog 69 #[.agg a.cells, .agg b.cells] wr fun r w' => r = .returned (.int .i64 0) ∧ Below wr.heap.size wr w') := HC2
     clear HC HC2 HS
     simp only [EntD.cells] at bxa bxb HC3
     go_wp2_with fail
     refine HC3.out.mono ?_
     rintro e2 w2 ⟨rfl, hb2⟩
     have B2 := hb1.trans (hb2.mono hb1.size)
     have bxa2 := BXA.out.later hb2
     have bxb2 := BXB.out.later hb2
     go_wp2
     go_roundw
     case rel => exact ⟨8, by omega, by go_num, HZ2.out, bxa2, bxb2, B2⟩
     case measure => simp [intOf]
    ·have HR : Hid (compareS a b = S) := by unfold Hid compareS; rw [firstNZ_at _ 7 HZ.out (by rw [← HS.out]; exact hz), HS.out]
     have hz1 : (S != 0) = true := by simp; exact hz
     have HC2 := HC.out wr hb1
     have HC3 : Hid (Calls Tryz.prog 69 #[.agg a.cells, .agg b.cells] wr fun r w' => r = .returned (.int .i64 S) ∧ Below wr.heap.size wr w') := HC2
     clear HC HC2 HS
     simp only [EntD.cells] at bxa bxb HC3
     go_wp2_with fail
     refine HC3.out.mono ?_
     rintro e2 w2 ⟨rfl, hb2⟩
     have B2 := hb1.trans (hb2.mono hb1.size)
     go_wp2
     go_ret
     exact ⟨by rw [HR.out]; rfl, B2⟩
  ·have hge : (8 : Int) ≤ (t : Int) := by omega
   have HR : Hid (compareS a b = 0) := by unfold Hid compareS; exact firstNZ_none _ (fun j hj => HZ.out j (by have : (cmpsS a b).length = 8 := rfl; omega))
   clear hlt
   go_wp2
   go_ret
   exact ⟨by rw [HR.out]; rfl, hb1⟩

end Go.Proofs.YtpabbnddeklpdaaGreat

namespace Go.Proofs.YtpabbnddeklpdaaGreat
open Go.RowKit
set_option linter.unusedVariables false

structure Apart (g : Nat) (w w' : World) : Prop where
 os : w'.os = w.os
 tape : w'.tape = w.tape
 output : w'.output = w.output
 size : w.heap.size ≤ w'.heap.size
 block : ∀ k, k < w.heap.size → k ≠ g → w'.heap[k]? = w.heap[k]?
theorem Apart.trans {g : Nat} {a b c : World} (h : Apart g a b) (k : Apart g b c) : Apart g a c :=
 ⟨k.os.trans h.os, k.tape.trans h.tape, k.output.trans h.output, Nat.le_trans h.size k.size, fun i hi hg => (k.block i (Nat.lt_of_lt_of_le hi h.size) hg).trans (h.block i hi hg)⟩
theorem Apart.of {g : Nat} {w w' : World} (h : Below w.heap.size w w') : Apart g w w' := ⟨h.os, h.tape, h.output, h.size, fun k hk _ => h.block k hk⟩
theorem Apart.below {g B : Nat} {w w' : World} (h : Apart g w w') (hg : B ≤ g) (hB : B ≤ w.heap.size) : Below B w w' :=
 ⟨h.os, h.tape, h.output, h.size, fun k hk => h.block k (by omega) (by omega)⟩

def rcells (v : Value) (k : Int) (bad : Bool) : Array Value := #[v, .int .i64 k, .bool bad]
theorem apart_set (w : World) (g i : Nat) (x : Value) : Apart g w (w.setCell ⟨g, i, none⟩ x) := by
 refine ⟨rfl, rfl, rfl, by simp [World.setCell], fun k hk hg => ?_⟩
 simp [World.setCell, Array.getElem?_modify, Ne.symm hg]
def oneR (bs : List Nat) (k : Nat) : Nat × Nat × Bool := if k = bs.length then (0, k, true) else (bs.getD k 0, k + 1, false)
end Go.Proofs.YtpabbnddeklpdaaGreat
