import Derived.Test.YtchebhafabhabaaGreatDoorK01
import Derived.Deep.RegionHeld3
import Derived.Lib.Bytealg
import Derived.Laws.EntriesVeiled
import Derived.Handy
namespace Go.Proofs.YtchebhafabhabaaGreatDoor
open Go.RowKit
set_option linter.unusedVariables false

def EBox (w : World) (g : Nat) (e : EntD) : Prop := w.heap[g]? = some (.cells e.cells 40 (0, 0))
theorem EBox.later {w w' : World} {g : Nat} {e : EntD} (h : EBox w g e) (hb : Below w.heap.size w w') : EBox w' g e := by
 unfold EBox at *
 rw [hb.block g (Array.getElem?_eq_some_iff.1 h).1]; exact h
theorem EBox.keep {w w' : World} {B g : Nat} {e : EntD} (h : EBox w g e) (hb : Below B w w') (hg : g < B) : EBox w' g e := by
 unfold EBox at *
 rw [hb.block g hg]; exact h
theorem EBox.new (w : World) (e : EntD) : EBox (w.alloc (.cells e.cells 40)) w.heap.size e := by
 show (w.heap.push _)[w.heap.size]? = some _
 simp
theorem EBox.vr {w : World} {g : Nat} {e : EntD} (h : EBox w g e) : w.cell? ⟨g, 0, none⟩ = some e.vr := by unfold EBox EntD.cells at h; simp [World.cell?, h]
theorem EBox.fam {w : World} {g : Nat} {e : EntD} (h : EBox w g e) : w.cell? ⟨g, 1, none⟩ = some (.int .i64 e.fam) := by unfold EBox EntD.cells at h; simp [World.cell?, h]
theorem EBox.vq {w : World} {g : Nat} {e : EntD} (h : EBox w g e) : w.cell? ⟨g, 2, none⟩ = some e.vq := by unfold EBox EntD.cells at h; simp [World.cell?, h]
theorem EBox.ts {w : World} {g : Nat} {e : EntD} (h : EBox w g e) : w.cell? ⟨g, 3, none⟩ = some (.int .i64 e.ts) := by unfold EBox EntD.cells at h; simp [World.cell?, h]
theorem EBox.seq {w : World} {g : Nat} {e : EntD} (h : EBox w g e) : w.cell? ⟨g, 4, none⟩ = some (.int .i64 e.seq) := by unfold EBox EntD.cells at h; simp [World.cell?, h]
theorem EBox.kind {w : World} {g : Nat} {e : EntD} (h : EBox w g e) : w.cell? ⟨g, 5, none⟩ = some (.int .i64 e.kind) := by unfold EBox EntD.cells at h; simp [World.cell?, h]
theorem EBox.vv {w : World} {g : Nat} {e : EntD} (h : EBox w g e) : w.cell? ⟨g, 6, none⟩ = some e.vv := by unfold EBox EntD.cells at h; simp [World.cell?, h]

set_option maxRecDepth 100000 in
set_option maxHeartbeats 1000000 in
theorem appendFalling_any {B : Nat} {a0 : Option Addr} {m0 c0 : Nat} {acc : List Nat} {w : World} (n : Nat) (hn : n < 9223372036854775808) (hown : Own w B (.slice a0 m0 c0) m0 acc) (hB : B ≤ w.heap.size) (hl : m0 ≤ 1000000) :
  Calls Tryz.prog 90 #[.slice a0 m0 c0, .int .i64 (n : Int)] w fun e w' => ∃ a m c, e = .returned (.slice a m c) ∧ Own w' B (.slice a m c) m (acc ++ be8 (9223372036854775807 - n)) ∧ Below B w w' := by
 have HB : Hid (Bys (be8 (9223372036854775807 - n))) := be8_bys _
 go_enter Tryz.func90, Tryz.ntmps90
 go_wp2_with fail
 refine (falling_any n hn _).mono ?_
 rintro e w1 ⟨a1, m1, c1, rfl, own1, hb1⟩
 obtain rfl : m1 = 8 := own1.1
 have r1 := own1.rd HB.out (by omega)
 have own0 := hown.later hb1
 have B1 : Below B w w1 := hb1.mono hB
 clear own1 hb1
 go_wp2_with (at_builtin; refine wpList_append_at rfl _ _ rfl B a0 m0 c0 _ rfl own0 a1 8 c1 _ rfl r1 (by omega) (Nat.le_trans hB B1.size) ?_; intro a5 m5 c5 w5 own5 hb5)
 go_ret
 exact ⟨a5, m5, c5, rfl, own5, B1.trans hb5⟩

def mark (k a : Int) : Nat := if k = a then 0 else 1
def keyL (e : EntD) : List Nat :=
 ((((ordL e.row ++ [e.fam.toNat, mark e.kind 5]) ++ (if e.kind = 5 then [] else ordL e.qual ++ [mark e.kind 4])) ++ be8 (9223372036854775807 - e.ts.toNat)) ++ be8 (9223372036854775807 - e.seq.toNat)) ++ [e.kind.toNat]

set_option maxRecDepth 100000 in
set_option maxHeartbeats 4000000 in
theorem key_bad {e : EntD} {w : World} (hok : EntD.Ok w e) (hc : checkS e ≠ 0) :
  Calls Tryz.prog 50 #[.agg e.cells] w fun r w' => r = .returned (.tuple #[.slice none 0 0, .int .i64 ((checkS e : Nat) : Int)]) ∧ Below w.heap.size w w' := by
 obtain ⟨C, hC⟩ : ∃ C, C = checkS e := ⟨_, rfl⟩
 have A1 := (Below.refl w.heap.size w).alloc (Nat.le_refl _) (.cells e.cells 40)
 have c1 := check_any (hok.later A1)
 rw [← hC] at c1 hc ⊢
 have HC1 : Hid (Calls Tryz.prog 87 #[.agg e.cells] (w.alloc (.cells e.cells 40)) fun r w' => r = .returned (.int .i64 ((C : Nat) : Int)) ∧ Below (w.alloc (.cells e.cells 40)).heap.size (w.alloc (.cells e.cells 40)) w') := c1
 have h0 : ((C : Int) != 0) = true := by simp; omega
 have h1 : ¬ ((C : Int) = 0) := by omega
 clear c1 hC hok
 obtain ⟨vr, fam, vq, ts, seq, kind, vv, row, qual, val⟩ := e
 simp only [EntD.cells] at *
 go_enter Tryz.func50, Tryz.ntmps50
 go_wp2_with fail
 refine HC1.out.mono ?_
 rintro e1 w1 ⟨rfl, hb1⟩
 have B1 := A1.trans (hb1.mono A1.size)
 go_wp2
 go_ret2
 exact ⟨rfl, B1⟩

theorem check_facts {e : EntD} (h : checkS e = 0) : (1 ≤ e.row.length ∧ e.row.length ≤ 256) ∧ (0 ≤ e.fam ∧ e.fam < 8) ∧ e.qual.length ≤ 256 ∧ (e.kind = 5 → e.qual = []) ∧ (1 ≤ e.ts ∧ e.ts ≤ 1099511627776) ∧ (0 ≤ e.seq ∧ e.seq ≤ 17592186044431) ∧ (1 ≤ e.kind ∧ e.kind ≤ 5) ∧ e.val.length ≤ 4096 ∧ (e.kind ≠ 1 → e.val = []) := by
 unfold checkS at h
 split at h
 ·cases h
 split at h
 ·cases h
 split at h
 ·cases h
 split at h
 ·cases h
 split at h
 ·cases h
 split at h
 ·cases h
 split at h
 ·cases h
 refine ⟨by omega, by omega, by omega, fun hk => List.eq_nil_of_length_eq_zero (by omega), by omega, by omega, by omega, by omega, fun hk => List.eq_nil_of_length_eq_zero (by omega)⟩

theorem append2 {w W : World} {o : Oper} {a : Act} {K : Act → World → Prop} {Q : Exit → Act → World → Prop} (s x : Operand)
  (ho : o.op = .call { callee := .builtin .append, args := #[s, x], argTypes := #[36, 36] })
  (B : Nat) (a0 : Option Addr) (m0 c0 : Nat) (acc : List Nat) (hs : a.eval s = .slice a0 m0 c0) (hown : Own w B (.slice a0 m0 c0) m0 acc)
  (vs : List Value) (m g : Nat) (hg : g = w.heap.size) (hx : a.eval x = .slice (some ⟨g, 0, none⟩) m m) (bs : List Nat) (hvs : vs = bv bs) (hm : m = bs.length)
  (hbytes : m0 + m ≤ 140737488355328) (hB : B ≤ w.heap.size) (hW : W = w.alloc (.cells vs.toArray 5))
  (h : ∀ a' m' c' w', Own w' B (.slice a' m' c') m' (acc ++ bs) → Below B w w' → K (a.put o.dst (.slice a' m' c')) w') : o.wp Tryz.prog a W K Q := by
 obtain ⟨i0, hi, hz0, hz1, hz2⟩ := info_parts info_byte
 subst hW hvs hg
 refine wp_append_own _ s x 36 ho B 5 i0 (.int .u8 0) 1 1 und_bytes hi hz0 hz1 hz2 rfl (by decide) _ m0 (bv acc) hs (hown.2.alloc _) ⟨w.heap.size, 0, none⟩ m m (bv bs) hx (by simp [bv, hm]) (news_new _ _ _) (bv_oneCell bs) (by unfold maxLen; omega) (by omega) (by simp; omega) ?_
 intro v' w' h1 h2 _
 obtain ⟨a', c', rfl⟩ := own_form h1
 refine h a' _ c' w' ⟨by rw [hown.1, hm]; simp, by simpa [bv] using h1⟩ (((Below.refl B w).alloc hB _).grown h2 (by simp; omega) (fun k hk => (hown.2.lt k hk).1))

set_option maxRecDepth 100000 in
set_option maxHeartbeats 4000000 in
theorem key_ok {e : EntD} {w : World} (hok : EntD.Ok w e) (hc : checkS e = 0) :
  Calls Tryz.prog 50 #[.agg e.cells] w fun r w' => ∃ a m c, r = .returned (.tuple #[.slice a m c, .int .i64 0]) ∧ Own w' w.heap.size (.slice a m c) m (keyL e) ∧ Below w.heap.size w w' := by
 obtain ⟨f1, f2, f3, f4, f5, f6, f7, _, _⟩ := check_facts hc
 have A1 := (Below.refl w.heap.size w).alloc (Nat.le_refl _) (.cells e.cells 40)
 have bx1 : Hid (EBox (w.alloc (.cells e.cells 40)) w.heap.size e) := EBox.new w e
 have c1 := check_any (hok.later A1)
 rw [hc] at c1
 have HC1 : Hid (Calls Tryz.prog 87 #[.agg e.cells] (w.alloc (.cells e.cells 40)) fun r w' => r = .returned (.int .i64 ((0 : Nat) : Int)) ∧ Below (w.alloc (.cells e.cells 40)).heap.size (w.alloc (.cells e.cells 40)) w') := c1
 clear c1 hc
 obtain ⟨vr, fam, vq, ts, seq, kind, vv, row, qual, val⟩ := e
 obtain ⟨h1, h2, h3⟩ := hok
 simp only [EntD.cells] at *
 obtain ⟨fm, rfl⟩ := Int.eq_ofNat_of_zero_le f2.1
 obtain ⟨t, rfl⟩ := Int.eq_ofNat_of_zero_le (show 0 ≤ ts by omega)
 obtain ⟨sq, rfl⟩ := Int.eq_ofNat_of_zero_le f6.1
 obtain ⟨kd, rfl⟩ := Int.eq_ofNat_of_zero_le (show 0 ≤ kind by omega)
 have HOR : Hid ((ordL row).length ≤ 514 ∧ Bys (ordL row)) := ⟨by have := ordL_len row; have : row.count 0 ≤ row.length := List.count_le_length; omega, ordL_bys row h1.1⟩
 have HOQ : Hid ((ordL qual).length ≤ 514 ∧ Bys (ordL qual)) := ⟨by have := ordL_len qual; have : qual.count 0 ≤ qual.length := List.count_le_length; omega, ordL_bys qual h2.1⟩
 have hfm : fm < 8 := by omega
 have hkd : kd ≤ 5 := by omega
 have hts : t < 9223372036854775808 := by omega
 have hsq : sq < 9223372036854775808 := by omega
 have em1 : (fm : Int) % 256 = (fm : Int) := by omega
 have em2 : (kd : Int) % 256 = (kd : Int) := by omega
 have HRR : Hid (Rd w vr row) := h1
 have HRQ : Hid (Rd w vq qual) := h2
 obtain ⟨M5, hM5⟩ : ∃ M, M = (if (kd : Int) = 5 then 0 else 1 : Nat) := ⟨_, rfl⟩
 have HM5 : Hid (M5 = mark (kd : Int) 5) := hM5
 have cM5 := fun w => markOf_any (kd : Int) 5 w
 rw [← hM5] at cM5
 have HCM : Hid (∀ w, Calls Tryz.prog 89 #[.int .i64 (kd : Int), .int .i64 5] w fun e w' => e = .returned (.int .u8 ((M5 : Nat) : Int)) ∧ w' = w) := cM5
 clear h1 h2 h3 f1 f2 f3 f5 f6 f7 hM5 cM5
 go_enter Tryz.func50, Tryz.ntmps50
 go_wp2_with fail
 refine HC1.out.mono ?_
 rintro e1 w1 ⟨rfl, hb1⟩
 have B1 := A1.trans (hb1.mono A1.size)
 have bx2 : Hid (EBox w1 w.heap.size _) := bx1.out.later hb1
 have x0 := bx2.out.vr
 simp only at x0
 clear hb1 bx1
 go_wp2_with fail
 refine (ordered_any (HRR.out.later B1) (by have := HOR.out.1; omega)).mono ?_
 rintro e2 w2 ⟨a2, m2, c2, rfl, own2, hb2⟩
 have B2 := B1.trans (hb2.mono B1.size)
 have bx3 : Hid (EBox w2 w.heap.size _) := bx2.out.later hb2
 have hm2 : m2 ≤ 514 := by rw [own2.1]; exact HOR.out.1
 have hG : w.heap.size < w1.heap.size := World.block_lt_of_cell? w1 _ x0
 have hG2 : w1.heap.size ≤ w2.heap.size := hb2.size
 clear hb2 bx2 x0
 have DD : Below w2.heap.size w2 w2.drew := (Below.refl _ _).drew
 have B2D : Below w.heap.size w w2.drew := B2.trans (DD.mono B2.size)
 have y1 := (bx3.out.later DD).fam
 have y5 := (bx3.out.later DD).kind
 have DA : Below w2.heap.size w2 (w2.alloc (.cells #[.int .u8 (fm : Int), .int .u8 (M5 : Int)] 5)).drew := ((Below.refl _ _).alloc (Nat.le_refl _) _).drew
 have BA : Below w.heap.size w (w2.alloc (.cells #[.int .u8 (fm : Int), .int .u8 (M5 : Int)] 5)).drew := B2.trans (DA.mono B2.size)
 have wfm : IntKind.u8.wrap (fm : Int) = (fm : Int) := by simp only [IntKind.wrap, IntKind.bits, IntKind.signed]; simp; omega
 have yA1 := (bx3.out.later DA).fam
 have yA5 := (bx3.out.later DA).kind
 simp only at y1 y5 yA1 yA5
 go_wp2_with fail
 go_region_held3 (fun wx => wx.cell? ⟨w.heap.size, 1, none⟩ = some (.int .i64 (fm : Int)) ∧ wx.cell? ⟨w.heap.size, 5, none⟩ = some (.int .i64 (kd : Int)) ∧ Below w.heap.size w wx) (first | exact ⟨y1, y5, B2D⟩ | exact ⟨yA1, yA5, BA⟩ | exact ⟨yB1, yB5, BB⟩) (first | (go_at_call 89; refine (HCM.out _).mono ?_; rintro e1 wm ⟨rfl, rfl⟩) | (rw [if_pos (by rfl)]; refine append2 (w := w2.drew) (.tmp 14) (.tmp 21) rfl w1.heap.size a2 m2 c2 _ rfl (own2.later DD) (bv [fm, M5]) 2 w2.heap.size rfl rfl [fm, M5] rfl rfl (by omega) hG2 rfl ?_; intro a4 m4 c4 w4 own4 hb4; have BB : Below w.heap.size w w4 := B2D.trans (hb4.mono (Nat.le_of_lt hG)); have bx4 : Hid (EBox w4 w.heap.size _) := (bx3.out.later DD).keep hb4 hG; have yB1 := bx4.out.fam; have yB5 := bx4.out.kind))
 have hm4 : m4 = m2 + 2 := by rw [own4.1, List.length_append, ← own2.1]; rfl
 have HM4 : Hid (m4 = m2 + 2) := hm4
 have hm4b : m4 ≤ 516 := by omega
 have hSw4 : w1.heap.size ≤ w4.heap.size := Nat.le_trans hG2 hb4.size
 clear hm4 y1 y5 yA1 yA5 yB1 yB5 DA BA DD B2D wfm own2
 by_cases hk5 : kd = 5
 ·have HKL : Hid (keyL ⟨vr, (fm : Int), vq, (t : Int), (sq : Int), (kd : Int), vv, row, qual, val⟩ = (((ordL row ++ [fm, M5]) ++ be8 (9223372036854775807 - t)) ++ be8 (9223372036854775807 - sq)) ++ [kd]) := by
   unfold Hid keyL
   rw [HM5.out]
   simp [hk5]
  have hkn : ((kd : Int) == 5) = true := by simp; omega
  have hkm : ((kd : Int) != 5) = false := by simp; omega
  clear hk5
  have yk := bx4.out.kind
  simp only at yk
  have z3 := bx4.out.ts
  have z4 := bx4.out.seq
  have z5 := bx4.out.kind
  simp only at z3 z4 z5
  go_wp2_with fail
  refine (appendFalling_any t hts own4 hSw4 (by omega)).mono ?_
  rintro e6 w6 ⟨a6, m6, c6, rfl, own6, hb6⟩
  have hm6 : m6 = m4 + 8 := by rw [own6.1, List.length_append, ← own4.1]; rfl
  have HM6 : Hid (m6 = m4 + 8) := hm6
  have bx6 : Hid (EBox w6 w.heap.size _) := bx4.out.keep hb6 hG
  have BB6 : Below w.heap.size w w6 := BB.trans (hb6.mono (Nat.le_of_lt hG))
  have hS6 : w1.heap.size ≤ w6.heap.size := Nat.le_trans hSw4 hb6.size
  have u4 := bx6.out.seq
  have u5 := bx6.out.kind
  simp only at u4 u5
  clear z3 z4 z5 hm6
  go_wp2_with fail
  refine (appendFalling_any sq hsq own6 hS6 (by have := HM6.out; omega)).mono ?_
  rintro e7 w7 ⟨a7, m7, c7, rfl, own7, hb7⟩
  have HM7 : Hid (m7 = m6 + 8) := by unfold Hid; rw [own7.1, List.length_append, ← own6.1]; rfl
  have bx7 : Hid (EBox w7 w.heap.size _) := bx6.out.keep hb7 hG
  have BB7 : Below w.heap.size w w7 := BB6.trans (hb7.mono (Nat.le_of_lt hG))
  have hS7 : w1.heap.size ≤ w7.heap.size := Nat.le_trans hS6 hb7.size
  have x5 := bx7.out.kind
  simp only at x5
  clear u4 u5
  go_wp2_with (at_builtin; refine wpList_append_new rfl (.tmp 45) _ rfl w1.heap.size a7 m7 c7 _ rfl own7 [_] 1 rfl [kd] (by first | rfl | (simp [bv]; done) | (simp [bv]; omega)) rfl (by have := HM6.out; have := HM7.out; omega) hS7 ?_; intro a8 m8 c8 w8 own8 hb8)
  go_ret2
  refine ⟨a8, m8, c8, rfl, ?_, BB7.trans (hb8.mono (Nat.le_of_lt hG))⟩
  have hfin := own8.mono (Nat.le_of_lt hG)
  rw [HKL.out]
  exact hfin
 ·have hkn : ((kd : Int) == 5) = false := by simp; omega
  have hkm : ((kd : Int) != 5) = true := by simp; omega
  obtain ⟨M4, hM4⟩ : ∃ M, M = (if (kd : Int) = 4 then 0 else 1 : Nat) := ⟨_, rfl⟩
  have HMM : Hid (M4 = mark (kd : Int) 4) := hM4
  have cM4 := fun w => markOf_any (kd : Int) 4 w
  rw [← hM4] at cM4
  have HCM4 : Hid (∀ w, Calls Tryz.prog 89 #[.int .i64 (kd : Int), .int .i64 4] w fun e w' => e = .returned (.int .u8 ((M4 : Nat) : Int)) ∧ w' = w) := cM4
  have HKL : Hid (keyL ⟨vr, (fm : Int), vq, (t : Int), (sq : Int), (kd : Int), vv, row, qual, val⟩ = (((((ordL row ++ [fm, M5]) ++ ordL qual) ++ [M4]) ++ be8 (9223372036854775807 - t)) ++ be8 (9223372036854775807 - sq)) ++ [kd]) := by
   unfold Hid keyL
   rw [HM5.out, HMM.out]
   have : ¬ ((kd : Int) = 5) := by omega
   simp [this]
  clear hM4 cM4 hk5
  have yk := bx4.out.kind
  have yq := bx4.out.vq
  simp only at yk yq
  go_wp2_with fail
  refine (ordered_any (HRQ.out.later BB) (by have := HOQ.out.1; omega)).mono ?_
  rintro e5 w5 ⟨a5, m5, c5, rfl, own5, hb5⟩
  have hm5 : m5 ≤ 514 := by rw [own5.1]; exact HOQ.out.1
  have r5 := own5.rd HOQ.out.2 (by omega)
  have own45 := own4.later hb5
  have BB5 : Below w.heap.size w w5 := BB.trans (hb5.mono BB.size)
  have bx5 : Hid (EBox w5 w.heap.size _) := bx4.out.later hb5
  have hS5 : w1.heap.size ≤ w5.heap.size := Nat.le_trans hSw4 hb5.size
  have HL5 : Hid (m5 = (ordL qual).length) := own5.1
  clear yk yq own5 hb5
  go_wp2_with (first
   | (at_builtin; refine wpList_append_at rfl (.tmp 26) _ rfl w1.heap.size a4 m4 c4 _ rfl own45 a5 m5 c5 _ rfl r5 (by omega) hS5 ?_; intro a9 m9 c9 w9 own9 hb9; have bx9 : Hid (EBox w9 w.heap.size _) := bx5.out.keep hb9 hG; have yk9 := bx9.out.kind; have hS9 : w1.heap.size ≤ w9.heap.size := Nat.le_trans hS5 hb9.size; have HM9 : Hid (m9 = m4 + m5) := (by unfold Hid; rw [own9.1, List.length_append, ← own45.1, ← HL5.out]); simp only at yk9)
   | (go_at_call 89; refine (HCM4.out _).mono ?_; rintro e1 wm ⟨rfl, rfl⟩)
   | (at_builtin; refine wpList_append_new rfl (.tmp 31) _ rfl w1.heap.size a9 m9 c9 _ rfl own9 [_] 1 rfl [M4] rfl rfl (by have := HM9.out; omega) hS9 ?_; intro aX mX cX wX ownX hbX; have bxX : Hid (EBox wX w.heap.size _) := bx9.out.keep hbX hG; have hSwX : w1.heap.size ≤ wX.heap.size := Nat.le_trans hS9 hbX.size; have z3 := bxX.out.ts; simp only at z3))
  have HMX : Hid (mX = m9 + 1) := by unfold Hid; rw [ownX.1, List.length_append, ← own9.1]; rfl
  have hmX : mX ≤ 1031 := by have := HMX.out; have := HM9.out; omega
  have BBX : Below w.heap.size w wX := (BB5.trans (hb9.mono (Nat.le_of_lt hG))).trans (hbX.mono (Nat.le_of_lt hG))
  refine (appendFalling_any t hts ownX hSwX (by omega)).mono ?_
  rintro e6 w6 ⟨a6, m6, c6, rfl, own6, hb6⟩
  have hm6 : m6 = mX + 8 := by rw [own6.1, List.length_append, ← ownX.1]; rfl
  have HM6 : Hid (m6 = mX + 8) := hm6
  have bx6 : Hid (EBox w6 w.heap.size _) := bxX.out.keep hb6 hG
  have BB6 : Below w.heap.size w w6 := BBX.trans (hb6.mono (Nat.le_of_lt hG))
  have hS6 : w1.heap.size ≤ w6.heap.size := Nat.le_trans hSwX hb6.size
  have u4 := bx6.out.seq
  have u5 := bx6.out.kind
  simp only at u4 u5
  clear z3 hm6
  go_wp2_with fail
  refine (appendFalling_any sq hsq own6 hS6 (by have := HM6.out; omega)).mono ?_
  rintro e7 w7 ⟨a7, m7, c7, rfl, own7, hb7⟩
  have HM7 : Hid (m7 = m6 + 8) := by unfold Hid; rw [own7.1, List.length_append, ← own6.1]; rfl
  have bx7 : Hid (EBox w7 w.heap.size _) := bx6.out.keep hb7 hG
  have BB7 : Below w.heap.size w w7 := BB6.trans (hb7.mono (Nat.le_of_lt hG))
  have hS7 : w1.heap.size ≤ w7.heap.size := Nat.le_trans hS6 hb7.size
  have x5 := bx7.out.kind
  simp only at x5
  clear u4 u5
  go_wp2_with (at_builtin; refine wpList_append_new rfl (.tmp 45) _ rfl w1.heap.size a7 m7 c7 _ rfl own7 [_] 1 rfl [kd] (by first | rfl | (simp [bv]; done) | (simp [bv]; omega)) rfl (by have := HM6.out; have := HM7.out; omega) hS7 ?_; intro a8 m8 c8 w8 own8 hb8)
  go_ret2
  refine ⟨a8, m8, c8, rfl, ?_, BB7.trans (hb8.mono (Nat.le_of_lt hG))⟩
  have hfin := own8.mono (Nat.le_of_lt hG)
  rw [HKL.out]
  exact hfin

end Go.Proofs.YtchebhafabhabaaGreatDoor

namespace Go.Proofs.YtchebhafabhabaaGreatDoor
open Go.RowKit
set_option linter.unusedVariables false

def ordC : List Nat → List Nat → Int
 | [], [] => 0
 | [], _ :: _ => -1
 | _ :: _, [] => 1
 | x :: a, y :: b => if x < y then -1 else if y < x then 1 else ordC a b
theorem ordC_self (a : List Nat) : ordC a a = 0 := by
 induction a with
 | nil => rfl
 | cons x a ih => simp [ordC, ih]
theorem ordC_eq : ∀ (a b : List Nat), ordC a b = 0 → a = b
 | [], [], _ => rfl
 | [], y :: b, h => by simp [ordC] at h
 | x :: a, [], h => by simp [ordC] at h
 | x :: a, y :: b, h => by
  simp only [ordC] at h
  split at h
  ·simp at h
  ·split at h
   ·simp at h
   ·rename_i h1 h2
    have : x = y := by omega
    rw [this, ordC_eq a b h]
theorem ordC_esc : ∀ (a b x y : List Nat), ordC a b ≠ 0 → ordC (escL a ++ 0 :: 1 :: x) (escL b ++ 0 :: 1 :: y) = ordC a b := by
 intro a
 induction a with
 | nil =>
  intro b x y h
  cases b with
  | nil => simp [ordC] at h
  | cons d b =>
   by_cases hd : d = 0
   ·subst hd; simp [escL, ordC]
   ·have : 0 < d := by omega
    simp [escL, ordC, hd, this]
 | cons c a ih =>
  intro b x y h
  cases b with
  | nil =>
   by_cases hc : c = 0
   ·subst hc; simp [escL, ordC]
   ·have : 0 < c := by omega
    simp [escL, ordC, hc, this]
  | cons d b =>
   simp only [ordC] at h ⊢
   by_cases hcd : c < d
   ·have hd : d ≠ 0 := by omega
    by_cases hc : c = 0
    ·subst hc
     simp [escL, ordC, hd, hcd]
    ·simp [escL, ordC, hc, hd, hcd]
   ·by_cases hdc : d < c
    ·have hc : c ≠ 0 := by omega
     by_cases hd : d = 0
     ·subst hd
      simp [escL, ordC, hc, hdc]
     ·simp [escL, ordC, hc, hd, hdc, hcd]
    ·have : c = d := by omega
     subst this
     simp only [Nat.lt_irrefl, if_false] at h ⊢
     have := ih b x y h
     by_cases hc : c = 0
     ·subst hc
      simpa [escL, ordC] using this
     ·simpa [escL, ordC, hc] using this
theorem ordC_ordL (a b x y : List Nat) (h : ordC a b ≠ 0) : ordC (ordL a ++ x) (ordL b ++ y) = ordC a b := by
 have := ordC_esc a b x y h
 simpa [ordL] using this
theorem ordC_ordL0 (a b : List Nat) : ordC (ordL a) (ordL b) = ordC a b := by
 by_cases h : ordC a b = 0
 ·rw [ordC_eq a b h, ordC_self, ordC_self]
 ·have := ordC_ordL a b [] [] h
  simpa using this
theorem ordL_free (a b : List Nat) (h : ordC a b ≠ 0) : ¬ ((ordL a).length ≤ (ordL b).length ∧ ordL a = (ordL b).take (ordL a).length) := by
 rintro ⟨_, h2⟩
 have e : ordL b = ordL a ++ (ordL b).drop (ordL a).length := by
  conv => lhs; rw [← List.take_append_drop (ordL a).length (ordL b)]
  rw [← h2]
 have := ordC_ordL a b ((ordL b).drop (ordL a).length) [] h
 rw [List.append_nil, ← e, ordC_self] at this
 exact h this.symm
theorem ordC_swap (a b : List Nat) : ordC b a = -ordC a b := by
 induction a generalizing b with
 | nil => cases b <;> simp [ordC]
 | cons x a ih =>
  cases b with
  | nil => simp [ordC]
  | cons y b =>
   simp only [ordC]
   by_cases h1 : x < y
   ·simp [h1, show ¬ y < x by omega]
   ·by_cases h2 : y < x
    ·simp [h1, h2]
    ·simp [h1, h2, ih b]
def val : List Nat → Nat
 | [] => 0
 | c :: r => c * 256 ^ r.length + val r
theorem val_lt (l : List Nat) (h : Bys l) : val l < 256 ^ l.length := by
 induction l with
 | nil => simp [val]
 | cons c r ih =>
  have h1 := ih (fun x hx => h x (by simp [hx]))
  have hc := h c (by simp)
  simp only [val, List.length_cons, Nat.pow_succ]
  have := Nat.mul_le_mul_right (256 ^ r.length) (show c ≤ 255 by omega)
  omega
theorem ordC_val : ∀ (a b : List Nat), a.length = b.length → Bys a → Bys b → ordC a b = if val a < val b then -1 else if val b < val a then 1 else 0
 | [], [], _, _, _ => by simp [ordC, val]
 | x :: a, y :: b, hl, ha, hb => by
  have hl' : a.length = b.length := by simpa using hl
  have ha' : Bys a := fun z hz => ha z (by simp [hz])
  have hb' : Bys b := fun z hz => hb z (by simp [hz])
  have la := val_lt a ha'
  have lb := val_lt b hb'
  have va : val (x :: a) = x * 256 ^ b.length + val a := by simp only [val]; rw [hl']
  have vb : val (y :: b) = y * 256 ^ b.length + val b := rfl
  rw [va, vb]
  simp only [ordC]
  rw [hl'] at la
  by_cases h1 : x < y
  ·have := Nat.mul_le_mul_right (256 ^ b.length) (show x + 1 ≤ y by omega)
   rw [Nat.add_mul, Nat.one_mul] at this
   rw [if_pos h1, if_pos (by omega)]
  ·by_cases h2 : y < x
   ·have := Nat.mul_le_mul_right (256 ^ b.length) (show y + 1 ≤ x by omega)
    rw [Nat.add_mul, Nat.one_mul] at this
    rw [if_neg h1, if_pos h2, if_neg (by omega), if_pos (by omega)]
   ·have hxy : x = y := by omega
    subst hxy
    rw [if_neg h1, if_neg h1, ordC_val a b hl' ha' hb']
    simp only [Nat.add_lt_add_iff_left]
theorem val_be8 (n : Nat) (h : n < 9223372036854775808) : val (be8 n) = n := by
 simp [val, be8]
 omega
def cmpN (m n : Nat) : Int := if m < n then -1 else if n < m then 1 else 0
theorem ordC_be8 (m n : Nat) (hm : m < 9223372036854775808) (hn : n < 9223372036854775808) : ordC (be8 m) (be8 n) = cmpN m n := by
 rw [ordC_val (be8 m) (be8 n) rfl (be8_bys m) (be8_bys n), val_be8 m hm, val_be8 n hn]
 rfl
theorem drop_cons (l : List Nat) (t : Nat) (h : t < l.length) : l.drop t = l.getD t 0 :: l.drop (t + 1) := by
 rw [List.drop_eq_getElem_cons h]; simp [List.getD, List.getElem?_eq_getElem h]

end Go.Proofs.YtchebhafabhabaaGreatDoor

namespace Go.Proofs.YtchebhafabhabaaGreatDoor
open Go.RowKit
set_option linter.unusedVariables false

theorem bytesOf_rd {w : World} {v : Value} {bs : List Nat} (h : Rd w v bs) : (Extern.Bytes.bytesOf v).run Tryz.prog w = .ok ⟨(Lib.bytesOf (bs.map fun n : Nat => (n : Int))).toArray⟩ w := by
 obtain ⟨hby, a, cap, rfl, hle, hm, hl48, hnone, hat⟩ := h
 cases a with
 | none =>
  have hb0 : bs = [] := by
   rcases hnone with h | ⟨b, off, h⟩
   ·exact List.eq_nil_of_length_eq_zero (by omega)
   ·cases h
  subst hb0
  rfl
 | some x =>
  have hi := ints_at hat
  have := Lib.run_loadBytesX (P := Tryz.prog) w (bs.map fun n : Nat => (n : Int)) x .empty (fun j y hj => by
   have hjl : j < bs.length := by
    have := (List.getElem?_eq_some_iff.1 hj).1
    simpa using this
   rw [hi j hjl]
   simp [List.getD, hj])
  simp only [List.length_map] at this
  show (Extern.Bytes.loadBytes x bs.length .empty).run Tryz.prog w = _
  rw [this]
  simp
theorem compare_ordC : ∀ (xs ys : List Nat), Bys xs → Bys ys → Lib.compareBytes (Lib.bytesOf (xs.map fun n : Nat => (n : Int))) (Lib.bytesOf (ys.map fun n : Nat => (n : Int))) = ordC xs ys
 | [], [], _, _ => rfl
 | [], _ :: _, _, _ => rfl
 | _ :: _, [], _, _ => rfl
 | a :: r1, b :: r2, ha, hb => by
  have ih := compare_ordC r1 r2 (fun x hx => ha x (by simp [hx])) (fun x hx => hb x (by simp [hx]))
  have h1 := ha a (by simp)
  have h2 := hb b (by simp)
  have e1 : ∀ c : Nat, c < 256 → ∀ d : Nat, d < 256 → ((c : Int).toNat.toUInt8 < (d : Int).toNat.toUInt8 ↔ c < d) := by
   intro c hc d hd
   simp [UInt8.lt_iff_toNat_lt, Nat.toUInt8, Nat.mod_eq_of_lt hc, Nat.mod_eq_of_lt hd]
  show (if (a : Int).toNat.toUInt8 < (b : Int).toNat.toUInt8 then -1 else if (b : Int).toNat.toUInt8 < (a : Int).toNat.toUInt8 then 1 else Lib.compareBytes (Lib.bytesOf (r1.map fun n : Nat => (n : Int))) (Lib.bytesOf (r2.map fun n : Nat => (n : Int)))) = ordC (a :: r1) (b :: r2)
  rw [ih]
  simp only [e1 a h1 b h2, e1 b h2 a h1]
  rfl

set_option maxRecDepth 100000 in
set_option maxHeartbeats 1000000 in
theorem bytesCompare_any {va vb : Value} {xs ys : List Nat} {w : World} (ha : Rd w va xs) (hb : Rd w vb ys) :
  Calls Tryz.prog 51 #[va, vb] w fun e w' => e = .returned (.int .i64 (ordC xs ys)) ∧ w' = w := by
 have h1 := bytesOf_rd ha
 have h2 := bytesOf_rd hb
 have hcmp : (Extern.BytealgCompare.compare #[va, vb]).run Tryz.prog w = .ok (.int .i64 (ordC xs ys)) w := by
  change Sem.run Tryz.prog (do pure (goInt (Extern.BytealgCompare.cmp (← Extern.Bytes.bytesOf va) (← Extern.Bytes.bytesOf vb)))) w = _
  simp only [Sem.run_bind, h1, h2, Sem.run_pure, Result.andThen]
  rw [Lib.cmp_eq, ← compare_ordC xs ys ha.1 hb.1]
  rfl
 have HCMP : Hid ((Extern.BytealgCompare.compare #[va, vb]).run Tryz.prog w = .ok (.int .i64 (ordC xs ys)) w) := hcmp
 clear h1 h2 hcmp
 go_enter Tryz.func51, Tryz.ntmps51
 go_wp2
 rw [run_callFunc_extern Tryz.func91 (by kernel_rfl) (by kernel_rfl) (by kernel_rfl) (e := Extern.BytealgCompare.compare) (by kernel_rfl), HCMP.out]
 simp only [Result.andThen]
 rw [Oper.upon_value]
 go_wp2
 go_ret
 exact ⟨rfl, rfl⟩

def cmpI (a b : Int) : Int := if a < b then -1 else if b < a then 1 else 0
end Go.Proofs.YtchebhafabhabaaGreatDoor

namespace Go.Proofs.YtchebhafabhabaaGreatDoor
open Go.RowKit
set_option linter.unusedVariables false

def aheadS (a b : EntD) (k : Int) : Int := cmpI ((mark a.kind k : Nat) : Int) ((mark b.kind k : Nat) : Int)
end Go.Proofs.YtchebhafabhabaaGreatDoor

namespace Go.Proofs.YtchebhafabhabaaGreatDoor
open Go.RowKit
set_option linter.unusedVariables false

def cmpsS (a b : EntD) : List Int := [ordC a.row b.row, cmpI a.fam b.fam, aheadS a b 5, ordC a.qual b.qual, aheadS a b 4, cmpI b.ts a.ts, cmpI b.seq a.seq, cmpI a.kind b.kind]
def firstNZ : List Int → Int
 | [] => 0
 | x :: r => if x = 0 then firstNZ r else x
def compareS (a b : EntD) : Int := firstNZ (cmpsS a b)
theorem firstNZ_at : ∀ (l : List Int) (t : Nat), (∀ j, j < t → l.getD j 0 = 0) → l.getD t 0 ≠ 0 → firstNZ l = l.getD t 0
 | [], t, _, h => by simp at h
 | x :: r, 0, _, h => by simp at h ⊢; simp [firstNZ, h]
 | x :: r, t + 1, h0, h => by
  have hx : x = 0 := by simpa using h0 0 (by omega)
  have := firstNZ_at r t (fun j hj => by simpa using h0 (j + 1) (by omega)) (by simpa using h)
  simp [firstNZ, hx]
  simpa using this
theorem firstNZ_none : ∀ (l : List Int), (∀ j, j < l.length → l.getD j 0 = 0) → firstNZ l = 0
 | [], _ => rfl
 | x :: r, h => by
  have hx : x = 0 := by simpa using h 0 (by simp)
  have := firstNZ_none r (fun j hj => by simpa using h (j + 1) (by simp; omega))
  simp [firstNZ, hx, this]

end Go.Proofs.YtchebhafabhabaaGreatDoor

namespace Go.Proofs.YtchebhafabhabaaGreatDoor
open Go.RowKit
set_option linter.unusedVariables false

structure Apart (g : Nat) (w w' : World) : Prop where
 os : w'.os = w.os
 tape : w'.tape = w.tape
 output : w'.output = w.output
 size : w.heap.size ≤ w'.heap.size
 block : ∀ k, k < w.heap.size → k ≠ g → w'.heap[k]? = w.heap[k]?
theorem Apart.trans {g : Nat} {a b c : World} (h : Apart g a b) (k : Apart g b c) : Apart g a c :=
 ⟨k.os.trans h.os, k.tape.trans h.tape, k.output.trans h.output, Nat.le_trans h.size k.size, fun i hi hg => (k.block i (Nat.lt_of_lt_of_le hi h.size) hg).trans (h.block i hi hg)⟩
theorem Apart.of {g : Nat} {w w' : World} (h : Below w.heap.size w w') : Apart g w w' := ⟨h.os, h.tape, h.output, h.size, fun k hk _ => h.block k hk⟩
theorem Apart.below {g B : Nat} {w w' : World} (h : Apart g w w') (hg : B ≤ g) (hB : B ≤ w.heap.size) : Below B w w' :=
 ⟨h.os, h.tape, h.output, h.size, fun k hk => h.block k (by omega) (by omega)⟩

def rcells (v : Value) (k : Int) (bad : Bool) : Array Value := #[v, .int .i64 k, .bool bad]
def RBox (w : World) (g : Nat) (v : Value) (k : Int) (bad : Bool) : Prop := w.heap[g]? = some (.cells (rcells v k bad) 151 (0, 0))
theorem RBox.vb {w : World} {g : Nat} {v : Value} {k : Int} {b : Bool} (h : RBox w g v k b) : w.cell? ⟨g, 0, none⟩ = some v := by unfold RBox rcells at h; simp [World.cell?, h]
theorem RBox.vk {w : World} {g : Nat} {v : Value} {k : Int} {b : Bool} (h : RBox w g v k b) : w.cell? ⟨g, 1, none⟩ = some (.int .i64 k) := by unfold RBox rcells at h; simp [World.cell?, h]
theorem RBox.vd {w : World} {g : Nat} {v : Value} {k : Int} {b : Bool} (h : RBox w g v k b) : w.cell? ⟨g, 2, none⟩ = some (.bool b) := by unfold RBox rcells at h; simp [World.cell?, h]
theorem RBox.fz {w : World} {g : Nat} {v : Value} {k : Int} {b : Bool} (h : RBox w g v k b) (i : Nat) : w.frozen? ⟨g, i, none⟩ = false := by unfold RBox at h; simp [World.frozen?, h]
theorem RBox.lt {w : World} {g : Nat} {v : Value} {k : Int} {b : Bool} (h : RBox w g v k b) : g < w.heap.size := (Array.getElem?_eq_some_iff.1 h).1
theorem RBox.later {w w' : World} {g : Nat} {v : Value} {k : Int} {b : Bool} (h : RBox w g v k b) (hb : Below w.heap.size w w') : RBox w' g v k b := by
 unfold RBox at *
 rw [hb.block g (Array.getElem?_eq_some_iff.1 h).1]; exact h
theorem RBox.new (w : World) (v : Value) (k : Int) (b : Bool) : RBox (w.alloc (.cells (rcells v k b) 151)) w.heap.size v k b := by
 show (w.heap.push _)[w.heap.size]? = some _
 simp
theorem RBox.setk {w : World} {g : Nat} {v : Value} {k : Int} {b : Bool} (h : RBox w g v k b) (z : Int) : RBox (w.setCell ⟨g, 1, none⟩ (.int .i64 z)) g v z b := by
 unfold RBox rcells at *
 simp [World.setCell, Array.getElem?_modify, h]
theorem RBox.setd {w : World} {g : Nat} {v : Value} {k : Int} {b : Bool} (h : RBox w g v k b) (z : Bool) : RBox (w.setCell ⟨g, 2, none⟩ (.bool z)) g v k z := by
 unfold RBox rcells at *
 simp [World.setCell, Array.getElem?_modify, h]
theorem apart_set (w : World) (g i : Nat) (x : Value) : Apart g w (w.setCell ⟨g, i, none⟩ x) := by
 refine ⟨rfl, rfl, rfl, by simp [World.setCell], fun k hk hg => ?_⟩
 simp [World.setCell, Array.getElem?_modify, Ne.symm hg]
theorem Rd.apart {w w' : World} {g : Nat} {a : Option Addr} {m c : Nat} {k : Int} {b : Bool} {v : Value} {bs : List Nat} (h : Rd w v bs) (hr : RBox w g (.slice a m c) k b) (hw : Apart g w w') : Rd w' v bs := by
 obtain ⟨h1, a2, cap, h2, h3, h4, h5, h6, h7⟩ := h
 refine ⟨h1, a2, cap, h2, h3, h4, h5, h6, ?_⟩
 rcases h7 with h | ⟨bl, off, rfl, hc⟩
 ·exact .inl h
 ·refine .inr ⟨bl, off, rfl, fun i hi => ?_⟩
  have hx := hc i hi
  have hne : bl ≠ g := by
   rintro rfl
   unfold RBox rcells at hr
   simp only [World.cell?, hr] at hx
   rcases hj : off + i with _ | _ | _ | j <;> rw [hj] at hx <;> simp at hx
  have hl := World.block_lt_of_cell? w _ hx
  have hb := hw.block bl hl hne
  simp only [World.cell?] at hx ⊢
  rw [hb]; exact hx
theorem Own.apart {w w' : World} {g B m0 : Nat} {v v0 : Value} {k : Int} {b : Bool} {xs : List Nat} (h : Own w B v m0 xs) (hr : RBox w g v0 k b) (hw : Apart g w w') : Own w' B v m0 xs := by
 refine ⟨h.1, h.2.1, ?_⟩
 rcases h.2.2 with h2 | ⟨g2, cap, cur, h3, h4, h5, h6⟩
 ·exact .inl h2
 ·refine .inr ⟨g2, cap, cur, h3, h4, ?_, h6⟩
  rw [hw.block g2 (Array.getElem?_eq_some_iff.1 h5).1 ?_]
  ·exact h5
  ·rintro rfl
   unfold RBox at hr
   rw [h5] at hr
   have := Option.some.inj hr
   injection this with _ e
   exact absurd e (by decide)

set_option maxRecDepth 100000 in
set_option maxHeartbeats 1000000 in
theorem step_any {w : World} {g : Nat} {v : Value} {k : Int} {bad : Bool} (h : RBox w g v k bad) (z : Int) (er : Nat) :
  Calls Tryz.prog 135 #[.pointer (some ⟨g, 0, none⟩), .int .i64 z, .int .i64 (er : Int)] w fun e w' => e = .returned (.tuple #[]) ∧ RBox w' g v z (bad || decide (er ≠ 0)) ∧ Apart g w w' := by
 have x0 := h.vb
 have x1 := h.vk
 have x2 := h.vd
 have f1 := h.fz 1
 have f2 := h.fz 2
 have H : Hid (RBox w g v k bad) := h
 clear h
 by_cases hb : bad = true
 ·subst hb
  go_enter Tryz.func135, Tryz.ntmps135
  go_wp2
  refine bodyPost_end (v := .tuple #[]) (by first | rfl | kernel_rfl) rfl ?_
  exact ⟨rfl, (H.out.setk z).setd _, (apart_set _ _ _ _).trans (apart_set _ _ _ _)⟩
 ·obtain rfl : bad = false := by simpa using hb
  go_enter Tryz.func135, Tryz.ntmps135
  go_wp2
  refine bodyPost_end (v := .tuple #[]) (by first | rfl | kernel_rfl) rfl ?_
  refine ⟨rfl, ?_, (apart_set _ _ _ _).trans (apart_set _ _ _ _)⟩
  have := (H.out.setk z).setd (decide (er ≠ 0))
  have e : ((er : Int) != 0) = decide (er ≠ 0) := by by_cases he : er = 0 <;> simp [he]
  rw [e]
  simpa using this

set_option maxRecDepth 100000 in
set_option maxHeartbeats 1000000 in
theorem text_any {w : World} {g m c : Nat} {a : Option Addr} {bs : List Nat} {bad : Bool} (k : Nat) (h : RBox w g (.slice a m c) (k : Int) bad) (hr : Rd w (.slice a m c) bs) (hk : k ≤ bs.length) (h47 : bs.length ≤ 140737488355328) :
  Calls Tryz.prog 123 #[.pointer (some ⟨g, 0, none⟩)] w fun e w' => ∃ a' m' c', e = .returned (.slice a' m' c') ∧ Own w' w.heap.size (.slice a' m' c') m' (ordR bs k).1 ∧ RBox w' g (.slice a m c) (((ordR bs k).2.1 : Nat) : Int) (bad || decide ((ordR bs k).2.2 ≠ 0)) ∧ Apart g w w' := by
 have x0 := h.vb
 have x1 := h.vk
 have H : Hid (RBox w g (.slice a m c) (k : Int) bad) := h
 clear h
 go_enter Tryz.func123, Tryz.ntmps123
 have BD : Below w.heap.size w w.drew := (Below.refl _ _).drew
 have y0 := (H.out.later BD).vb
 have y1 := (H.out.later BD).vk
 have HRD : Hid (Rd w.drew (.slice a m c) bs ∧ k ≤ bs.length ∧ bs.length ≤ 140737488355328) := ⟨hr.later BD, hk, h47⟩
 clear hr hk h47
 go_wp2_with fail
 go_region_held3 (fun wx => wx.cell? ⟨g, 0, none⟩ = some (.slice a m c) ∧ wx.cell? ⟨g, 1, none⟩ = some (.int .i64 (k : Int)) ∧ Below w.heap.size w wx) (first | exact ⟨y0, y1, BD⟩ | exact ⟨z0, z1, BA⟩) (first | (go_at_call 134; refine (readOrdered_in HRD.out.1 k HRD.out.2.1 HRD.out.2.2).mono ?_; rintro e1 w1 ⟨a1, m1, c1, rfl, own1, hb1⟩; have BA : Below w.heap.size w w1 := BD.trans hb1; have z0 := (H.out.later BA).vb; have z1 := (H.out.later BA).vk))
 go_wp2_with fail
 refine (step_any (H.out.later BA) _ _).mono ?_
 rintro e2 w2 ⟨rfl, bx, ap⟩
 go_wp2
 go_ret
 exact ⟨a1, m1, c1, rfl, own1.apart (H.out.later BA) ap, bx, (Apart.of BA).trans ap⟩

set_option maxRecDepth 100000 in
set_option maxHeartbeats 1000000 in
theorem kfalling_any {w : World} {g m c : Nat} {a : Option Addr} {bs : List Nat} {bad : Bool} (k : Nat) (h : RBox w g (.slice a m c) (k : Int) bad) (hr : Rd w (.slice a m c) bs) (hk : k ≤ bs.length) :
  Calls Tryz.prog 125 #[.pointer (some ⟨g, 0, none⟩)] w fun e w' => e = .returned (.int .i64 (((fallR bs k).1 : Nat) : Int)) ∧ RBox w' g (.slice a m c) (((fallR bs k).2.1 : Nat) : Int) (bad || decide ((fallR bs k).2.2 ≠ 0)) ∧ Apart g w w' := by
 have x0 := h.vb
 have x1 := h.vk
 have H : Hid (RBox w g (.slice a m c) (k : Int) bad) := h
 clear h
 go_enter Tryz.func125, Tryz.ntmps125
 have BD : Below w.heap.size w w.drew := (Below.refl _ _).drew
 have y0 := (H.out.later BD).vb
 have y1 := (H.out.later BD).vk
 have HRD : Hid (Rd w.drew (.slice a m c) bs ∧ k ≤ bs.length) := ⟨hr.later BD, hk⟩
 clear hr hk
 go_wp2_with fail
 go_region_held3 (fun wx => wx.cell? ⟨g, 0, none⟩ = some (.slice a m c) ∧ wx.cell? ⟨g, 1, none⟩ = some (.int .i64 (k : Int)) ∧ Below w.heap.size w wx) (first | exact ⟨y0, y1, BD⟩) (first | (go_at_call 136; refine (readFalling_in HRD.out.1 k HRD.out.2).mono ?_; rintro e1 w1 ⟨rfl, rfl⟩))
 go_wp2_with fail
 refine (step_any (H.out.later BD) _ _).mono ?_
 rintro e2 w2 ⟨rfl, bx, ap⟩
 go_wp2
 go_ret
 exact ⟨rfl, bx, (Apart.of BD).trans ap⟩

def oneR (bs : List Nat) (k : Nat) : Nat × Nat × Bool := if k = bs.length then (0, k, true) else (bs.getD k 0, k + 1, false)
theorem oneR_end (bs : List Nat) : oneR bs bs.length = (0, bs.length, true) := by simp [oneR]
theorem oneR_in (bs : List Nat) (k : Nat) (h : k < bs.length) : oneR bs k = (bs.getD k 0, k + 1, false) := by simp [oneR]; omega
set_option maxRecDepth 100000 in
set_option maxHeartbeats 1000000 in
theorem one_any {w : World} {g m c : Nat} {a : Option Addr} {bs : List Nat} {bad : Bool} (k : Nat) (h : RBox w g (.slice a m c) (k : Int) bad) (hr : Rd w (.slice a m c) bs) (hk : k ≤ bs.length) :
  Calls Tryz.prog 124 #[.pointer (some ⟨g, 0, none⟩)] w fun e w' => e = .returned (.int .u8 (((oneR bs k).1 : Nat) : Int)) ∧ RBox w' g (.slice a m c) (((oneR bs k).2.1 : Nat) : Int) (bad || (oneR bs k).2.2) ∧ Apart g w w' := by
 have x0 := h.vb
 have x1 := h.vk
 have x2 := h.vd
 have f1 := h.fz 1
 have f2 := h.fz 2
 have H : Hid (RBox w g (.slice a m c) (k : Int) bad) := h
 clear h
 obtain ⟨hn, hle, hm, hl48⟩ := rd_lens hr
 by_cases he : k = bs.length
 ·have HE : Hid (oneR bs k = (0, k, true)) := by unfold Hid; rw [he]; exact oneR_end bs
  have hkm : (k : Int) = (m : Int) := by omega
  have hkb : ((k : Int) == (m : Int)) = true := by simp; omega
  clear hr hk he hn
  rw [HE.out]
  have BD : Below w.heap.size w w.drew := (Below.refl _ _).drew
  have HD : Hid (RBox w.drew g (.slice a m c) (k : Int) bad) := H.out.later BD
  go_enter Tryz.func124, Tryz.ntmps124
  go_wp2_with fail
  go_region
  have y0 := HD.out.vb
  have y1 := HD.out.vk
  have y2 := HD.out.vd
  have e1 := HD.out.fz 1
  have e2 := HD.out.fz 2
  go_wp2
  go_ret
  refine ⟨rfl, ?_, (apart_set _ _ _ _).trans (Apart.of (Below.refl _ _).drew)⟩
  have := (H.out.setd true).later (Below.refl _ _).drew
  simpa using this
 ·have hk' : k < bs.length := by omega
  have HE : Hid (oneR bs k = (bs.getD k 0, k + 1, false)) := oneR_in bs k hk'
  have hkb : ((k : Int) == (m : Int)) = false := by simp; omega
  have hkne : ¬ ((k : Int) = (m : Int)) := by omega
  have hkm : k < m := by omega
  have BD : Below w.heap.size w w.drew := (Below.refl _ _).drew
  have HD : Hid (RBox w.drew g (.slice a m c) (k : Int) bad) := H.out.later BD
  have HR : Hid (Rd w (.slice a m c) bs) := hr
  clear hr hk he hn hk'
  rw [HE.out]
  go_enter Tryz.func124, Tryz.ntmps124
  go_wp2_with fail
  go_region
  have y0 := HD.out.vb
  have y1 := HD.out.vk
  have y2 := HD.out.vd
  have e1 := HD.out.fz 1
  have e2 := HD.out.fz 2
  go_wp2_with fail
  have ap : Apart g w (w.setCell ⟨g, 1, none⟩ (.int .i64 ((k : Int) + 1))).drew := (apart_set _ _ _ _).trans (Apart.of (Below.refl _ _).drew)
  have bx : RBox (w.setCell ⟨g, 1, none⟩ (.int .i64 ((k : Int) + 1))).drew g (.slice a m c) ((k : Int) + 1) bad := (H.out.setk _).later (Below.refl _ _).drew
  have r2 := HR.out.apart H.out ap
  generalize (w.setCell ⟨g, 1, none⟩ (.int .i64 ((k : Int) + 1))).drew = w2 at ap bx r2 ⊢
  clear x0 x1 x2 f1 f2 y0 y1 y2 e1 e2 HD BD
  have y0 := bx.vb
  have y1 := bx.vk
  have HX : Hid (RBox w2 g (.slice a m c) ((k : Int) + 1) bad) := bx
  obtain ⟨h0, _, _⟩ | ⟨b, off, rfl⟩ := rd_some r2
  ·omega
  obtain ⟨hc, hcl⟩ := rd_cell r2 k hkm
  have hi0 : (0 : Int) ≤ (k : Int) := by omega
  have hi1 : (k : Int) < (m : Int) := by omega
  clear bx r2
  go_region
  go_wp2
  go_ret
  refine ⟨rfl, ?_, ap.trans (Apart.of (Below.refl _ _).drew)⟩
  have := HX.out.later (Below.refl _ _).drew
  simpa using this
end Go.Proofs.YtchebhafabhabaaGreatDoor
