import Derived.Test.YthpdlclgiggekaaJ16
import Derived.Test.YthpdlclgiggekaaJ17
import Derived.Test.YthpdlclgiggekaaJ13
import Derived.Lib.Hide
namespace Go.Proofs.Ythpdlclgiggekaa
open Go.RowKit
set_option linter.unusedVariables false

/-- An entry whose byte strings have marks behind them. -/
def LaidE (w : World) (B : Nat) (D : EntD) : Prop := Laid w B D.vr D.row ∧ Laid w B D.vq D.qual ∧ Laid w B D.vv D.val
theorem LaidE.later {w w' : World} {B : Nat} {D : EntD} (h : LaidE w B D) (hb : Below w.heap.size w w') : LaidE w' B D := ⟨h.1.later hb, h.2.1.later hb, h.2.2.later hb⟩
theorem Laid.mono {w : World} {B B' : Nat} {u : Value} {bs : List Nat} (h : Laid w B u bs) (hB : B' ≤ B) : Laid w B' u bs := by
  obtain ⟨g, c, h1, h2, h3, h4⟩ := h
  exact ⟨g, c, h1, h2, h3, h4.mono hB⟩
theorem LaidE.mono {w : World} {B B' : Nat} {D : EntD} (h : LaidE w B D) (hB : B' ≤ B) : LaidE w B' D := ⟨h.1.mono hB, h.2.1.mono hB, h.2.2.mono hB⟩
/-- The data of an entry that entry() makes. -/
def EntD.cut (e : EntD) : EntD := { e with row := e.row.take 5000, qual := e.qual.take 5000, val := e.val.take 5000 }
/-- Data that may be handed out by entry(). -/
def EntD.Fine (e : EntD) : Prop := (Bys e.row ∧ e.row.length ≤ 5000) ∧ (Bys e.qual ∧ e.qual.length ≤ 5000) ∧ (Bys e.val ∧ e.val.length ≤ 5000)
theorem EntD.cut_fine {w : World} {e : EntD} (h : EntD.Ok w e) : EntD.Fine e.cut :=
  ⟨⟨fun x hx => h.1.1 x (List.mem_of_mem_take hx), by simp [EntD.cut]; omega⟩, ⟨fun x hx => h.2.1.1 x (List.mem_of_mem_take hx), by simp [EntD.cut]; omega⟩, ⟨fun x hx => h.2.2.1 x (List.mem_of_mem_take hx), by simp [EntD.cut]; omega⟩⟩
theorem EntD.Fine.same {a b : EntD} (h : EntD.Fine b) (s : EntD.Same a b) : EntD.Fine a := by
  unfold EntD.Fine at *
  rw [s.2.2.2.2.1, s.2.2.2.2.2.1, s.2.2.2.2.2.2]; exact h
theorem LaidE.ok {w : World} {B : Nat} {D : EntD} (h : LaidE w B D) (k : EntD.Fine D) : EntD.Ok w D := ⟨h.1.rd k.1.1 (by have := k.1.2; omega), h.2.1.rd k.2.1.1 (by have := k.2.1.2; omega), h.2.2.rd k.2.2.1 (by have := k.2.2.2; omega)⟩
theorem check_same {a b : EntD} (s : EntD.Same a b) : checkS a = checkS b := by
  obtain ⟨h1, h2, h3, h4, h5, h6, h7⟩ := s
  unfold checkS; rw [h1, h2, h3, h4, h5, h6, h7]
theorem keyL_same {a b : EntD} (s : EntD.Same a b) : keyL a = keyL b := by
  obtain ⟨h1, h2, h3, h4, h5, h6, h7⟩ := s
  unfold keyL; rw [h1, h2, h3, h4, h5, h6]
theorem packL_same {a b : EntD} (s : EntD.Same a b) : packL a = packL b := by
  unfold packL; rw [keyL_same s, s.2.2.2.2.2.2]

open Classical in
noncomputable def keyA (e : EntD) : List Nat := if checkS e = 0 then keyL e else []
open Classical in
noncomputable def packA (e : EntD) : List Nat := if checkS e = 0 then packL e else []
theorem keyA_same {a b : EntD} (s : EntD.Same a b) : keyA a = keyA b := by unfold keyA; rw [check_same s, keyL_same s]
theorem packA_same {a b : EntD} (s : EntD.Same a b) : packA a = packA b := by unfold packA; rw [check_same s, packL_same s]
theorem keyA_ok {e : EntD} (h : EntD.Fine e) : Bys (keyA e) ∧ (keyA e).length ≤ 6000 := by
  unfold keyA
  split
  · rename_i k
    exact ⟨keyL_bys h.1.1 h.2.1.1 k, by have := keyL_len2 k; omega⟩
  · exact ⟨by intro x hx; simp at hx, by simp⟩
theorem packA_ok {e : EntD} (h : EntD.Fine e) : Bys (packA e) ∧ (packA e).length ≤ 6000 := by
  unfold packA
  split
  · rename_i k
    exact ⟨packL_bys h.1.1 h.2.1.1 h.2.2.1 k, packL_len k⟩
  · exact ⟨by intro x hx; simp at hx, by simp⟩
theorem key_all {e : EntD} {w : World} (hok : EntD.Ok w e) :
    Calls Try.prog 23 #[.agg e.cells] w fun r w' => ∃ a m c, r = .returned (.tuple #[.slice a m c, .int .i64 ((checkS e : Nat) : Int)]) ∧ Own w' w.heap.size (.slice a m c) m (keyA e) ∧ Below w.heap.size w w' := by
  unfold keyA
  by_cases h : checkS e = 0
  · rw [if_pos h, h]; exact key_ok hok h
  · rw [if_neg h]
    refine (key_bad hok h).mono ?_
    rintro r w' ⟨rfl, hb⟩
    exact ⟨none, 0, 0, rfl, own_nil _ _, hb⟩
theorem pack_all {e : EntD} {w : World} (hok : EntD.Ok w e) :
    Calls Try.prog 27 #[.agg e.cells] w fun r w' => ∃ a m c, r = .returned (.tuple #[.slice a m c, .int .i64 ((checkS e : Nat) : Int)]) ∧ Own w' w.heap.size (.slice a m c) m (packA e) ∧ Below w.heap.size w w' := by
  unfold packA
  by_cases h : checkS e = 0
  · rw [if_pos h, h]; exact pack_ok hok h
  · rw [if_neg h]
    refine (pack_bad hok h).mono ?_
    rintro r w' ⟨rfl, hb⟩
    exact ⟨none, 0, 0, rfl, own_nil _ _, hb⟩
theorem refKey_all {e : EntD} {w : World} (hok : EntD.Ok w e) :
    Calls Try.prog 41 #[.agg e.cells] w fun r w' => ∃ a m c, r = .returned (.tuple #[.slice a m c, .int .i64 ((checkS e : Nat) : Int)]) ∧ Own w' w.heap.size (.slice a m c) m (keyA e) ∧ Below w.heap.size w w' := by
  unfold keyA
  by_cases h : checkS e = 0
  · rw [if_pos h, h]; exact refKey_ok hok h
  · rw [if_neg h]
    refine (refKey_bad hok h).mono ?_
    rintro r w' ⟨rfl, hb⟩
    exact ⟨none, 0, 0, rfl, own_nil _ _, hb⟩
theorem refPack_all {e : EntD} {w : World} (hok : EntD.Ok w e) :
    Calls Try.prog 42 #[.agg e.cells] w fun r w' => ∃ a m c, r = .returned (.tuple #[.slice a m c, .int .i64 ((checkS e : Nat) : Int)]) ∧ Own w' w.heap.size (.slice a m c) m (packA e) ∧ Below w.heap.size w w' := by
  unfold packA
  by_cases h : checkS e = 0
  · rw [if_pos h, h]; exact refPack_ok hok h
  · rw [if_neg h]
    refine (refPack_bad hok h).mono ?_
    rintro r w' ⟨rfl, hb⟩
    exact ⟨none, 0, 0, rfl, own_nil _ _, hb⟩

theorem Laid.put {w : World} {B g i : Nat} {u x : Value} {bs : List Nat} (h : Laid w B u bs) (hg : g < B) : Laid (w.setCell ⟨g, i, none⟩ x) B u bs := by
  obtain ⟨g2, c, h1, h2, h3, h4⟩ := h
  refine ⟨g2, c, h1, h2, h3, h4.1, h4.2.1, ?_⟩
  rcases h4.2.2 with h5 | ⟨g3, cap, cur, h5, h6, h7, h8⟩
  · exact .inl h5
  · refine .inr ⟨g3, cap, cur, h5, h6, ?_, h8⟩
    rw [Below.heap_setCell w ⟨g, i, none⟩ x g3 (by simp; omega)]
    exact h7
theorem Laid.form {w : World} {B : Nat} {u : Value} {bs : List Nat} (h : Laid w B u bs) : ∃ a n c, u = .slice a n c := by
  obtain ⟨g, c, h1, _⟩ := h
  exact ⟨_, _, _, h1⟩
theorem Laid.fill {w : World} {B g : Nat} {u : Value} {bs : List Nat} {D : EntD} (h : Laid w B u bs) (hg : g < B) : Laid (filled w g D) B u bs :=
  (((((((h.put hg).put hg).put hg).put hg).put hg).put hg).put hg)

set_option maxRecDepth 100000 in
set_option maxHeartbeats 4000000 in
theorem entry_any {e : EntD} {w : World} (hok : EntD.Ok w e) :
    Calls Try.prog 19 #[.agg e.cells] w fun r w' => ∃ D : EntD, r = .returned (.agg D.cells) ∧ EntD.Same D e.cut ∧ LaidE w' w.heap.size D ∧ Below w.heap.size w w' := by
  have A0 := (Below.refl w.heap.size w).alloc (Nat.le_refl _) (.cells e.cells 35)
  have A1 := A0.alloc A0.size (.cells zeroD.cells 35)
  have bx1 : Hid (EBox ((w.alloc (.cells e.cells 35)).alloc (.cells zeroD.cells 35)) w.heap.size e) := (EBox.new w e).later ((Below.refl _ _).alloc (Nat.le_refl _) _)
  have bg0 := EBox.new (w.alloc (.cells e.cells 35)) zeroD
  rw [World.size_alloc] at bg0
  have bg1 := Lib.hid bg0
  have HK : Hid (EntD.Ok w e) := hok
  clear hok bg0 A0
  obtain ⟨vr, fam, vq, ts, seq, kind, vv, row, qual, val⟩ := e
  simp only [EntD.cells, zeroD] at *
  go_enter Try.func19, Try.ntmps19
  go_wp2_with fail
  refine (laid_any (N := 5000) (HK.out.1.later A1) (by decide)).mono ?_
  rintro q w1 ⟨u1, rfl, l1, hb1⟩
  obtain ⟨a1, n1, k1, rfl⟩ := l1.form
  have hs1 : w.heap.size + 2 ≤ w1.heap.size := by have := hb1.size; simpa using this
  have B1 := (A1.trans (hb1.mono A1.size)).setCell (p := ⟨w.heap.size, 0, none⟩) (Nat.le_refl _) (.slice a1 n1 k1)
  have bx2 := bx1.out.later hb1
  have c0 := bx2.vr
  have f0 := bx2.fz 0
  have bx3 := bx2.set0 (.slice a1 n1 k1) (row.take 5000)
  have x2 := bx3.vq
  simp only at x2 c0
  have L1 : Hid (Laid (w1.setCell ⟨w.heap.size, 0, none⟩ (.slice a1 n1 k1)) (w.heap.size + 2) (.slice a1 n1 k1) (row.take 5000)) := (by have := l1; simp at this; exact this : Laid w1 (w.heap.size + 2) (.slice a1 n1 k1) (row.take 5000)).put (by omega)
  have HX3 := Lib.hid bx3
  have bg2 := Lib.hid ((bg1.out.later hb1).apart (apart_set w1 w.heap.size 0 (.slice a1 n1 k1)) (by omega))
  clear l1 hb1 A1 bx1 bx2 bx3 bg1
  go_wp2_with fail
  refine (laid_any (N := 5000) (HK.out.2.1.later B1) (by decide)).mono ?_
  rintro q w2 ⟨u2, rfl, l2, hb2⟩
  obtain ⟨a2, n2, k2, rfl⟩ := l2.form
  have hs2 : w.heap.size + 2 ≤ w2.heap.size := Nat.le_trans (by simpa using hs1) hb2.size
  have B2 := (B1.trans (hb2.mono B1.size)).setCell (p := ⟨w.heap.size, 2, none⟩) (Nat.le_refl _) (.slice a2 n2 k2)
  have bx4 := HX3.out.later hb2
  have c2 := bx4.vq
  have f2 := bx4.fz 2
  have bx5 := bx4.set2 (.slice a2 n2 k2) (qual.take 5000)
  have x6 := bx5.vv
  simp only at x6 c2
  have L2 : Hid (Laid (w2.setCell ⟨w.heap.size, 2, none⟩ (.slice a2 n2 k2)) (w.heap.size + 2) (.slice a1 n1 k1) (row.take 5000) ∧ Laid (w2.setCell ⟨w.heap.size, 2, none⟩ (.slice a2 n2 k2)) (w.heap.size + 2) (.slice a2 n2 k2) (qual.take 5000)) := ⟨(L1.out.later hb2).put (by omega), (l2.mono (by simpa using hs1)).put (by omega)⟩
  have HX5 := Lib.hid bx5
  have bg3 := Lib.hid ((bg2.out.later hb2).apart (apart_set w2 w.heap.size 2 (.slice a2 n2 k2)) (by omega))
  clear l2 hb2 bx4 bx5 HX3 L1 c0 f0 x2 B1 bg2
  go_wp2_with fail
  refine (laid_any (N := 5000) (HK.out.2.2.later B2) (by decide)).mono ?_
  rintro q w3 ⟨u3, rfl, l3, hb3⟩
  obtain ⟨a3, n3, k3, rfl⟩ := l3.form
  have B3 := (B2.trans (hb3.mono B2.size)).setCell (p := ⟨w.heap.size, 6, none⟩) (Nat.le_refl _) (.slice a3 n3 k3)
  have bx6 := HX5.out.later hb3
  have bx7 := bx6.set6 (.slice a3 n3 k3) (val.take 5000)
  have L3 : Laid (w3.setCell ⟨w.heap.size, 6, none⟩ (.slice a3 n3 k3)) (w.heap.size + 2) (.slice a1 n1 k1) (row.take 5000) ∧ Laid (w3.setCell ⟨w.heap.size, 6, none⟩ (.slice a3 n3 k3)) (w.heap.size + 2) (.slice a2 n2 k2) (qual.take 5000) ∧ Laid (w3.setCell ⟨w.heap.size, 6, none⟩ (.slice a3 n3 k3)) (w.heap.size + 2) (.slice a3 n3 k3) (val.take 5000) := ⟨(L2.out.1.later hb3).put (by omega), (L2.out.2.later hb3).put (by omega), (l3.mono (by simpa using hs2)).put (by omega)⟩
  have bg4 := (bg3.out.later hb3).apart (apart_set w3 w.heap.size 6 (.slice a3 n3 k3)) (by omega)
  obtain ⟨D, hD⟩ : ∃ D : EntD, D = ⟨(.slice a1 n1 k1), fam, (.slice a2 n2 k2), ts, seq, kind, (.slice a3 n3 k3), row.take 5000, qual.take 5000, val.take 5000⟩ := ⟨_, rfl⟩
  have fb := filled_box bg4 D
  have bw := B3.trans ((filled_apart (w3.setCell ⟨w.heap.size, 6, none⟩ (.slice a3 n3 k3)) (w.heap.size + 1) D).below (by omega) B3.size)
  have L4 : Laid (filled (w3.setCell ⟨w.heap.size, 6, none⟩ (.slice a3 n3 k3)) (w.heap.size + 1) D) (w.heap.size + 2) (.slice a1 n1 k1) (row.take 5000) ∧ Laid (filled (w3.setCell ⟨w.heap.size, 6, none⟩ (.slice a3 n3 k3)) (w.heap.size + 1) D) (w.heap.size + 2) (.slice a2 n2 k2) (qual.take 5000) ∧ Laid (filled (w3.setCell ⟨w.heap.size, 6, none⟩ (.slice a3 n3 k3)) (w.heap.size + 1) D) (w.heap.size + 2) (.slice a3 n3 k3) (val.take 5000) := ⟨L3.1.fill (by omega), L3.2.1.fill (by omega), L3.2.2.fill (by omega)⟩
  rw [hD] at fb bw L4
  have HDN : Hid (_ ∧ _ ∧ _) := ⟨fb, bw, L4⟩
  obtain ⟨z0, z1, z2, z3, z4, z5, z6⟩ := bx6.cells7
  obtain ⟨zf0, zf1, zf2, zf3, zf4, zf5, zf6⟩ := bx6.fz7
  obtain ⟨y0, y1, y2, y3, y4, y5, y6⟩ := bx7.cells7
  obtain ⟨g0, g1, g2, g3, g4, g5, g6⟩ := bg4.cells7
  obtain ⟨gf0, gf1, gf2, gf3, gf4, gf5, gf6⟩ := bg4.fz7
  simp only at y0 y1 y2 y3 y4 y5 y6 g0 g1 g2 g3 g4 g5 g6 z6
  clear l3 hb3 bx6 bx7 HX5 L2 L3 L4 c2 f2 x6 B2 B3 fb bw bg4 bg3 hD z0 z1 z2 z3 z4 z5
  simp only [filled] at HDN
  go_wp2
  obtain ⟨fb, bw, L4⟩ := HDN.out
  clear HDN
  generalize ((((((((w3.setCell ⟨w.heap.size, 6, none⟩ (.slice a3 n3 k3)).setCell ⟨w.heap.size + 1, 0, none⟩ (.slice a1 n1 k1)).setCell ⟨w.heap.size + 1, 1, none⟩ (.int .i64 fam)).setCell ⟨w.heap.size + 1, 2, none⟩ (.slice a2 n2 k2)).setCell ⟨w.heap.size + 1, 3, none⟩ (.int .i64 ts)).setCell ⟨w.heap.size + 1, 4, none⟩ (.int .i64 seq)).setCell ⟨w.heap.size + 1, 5, none⟩ (.int .i64 kind)).setCell ⟨w.heap.size + 1, 6, none⟩ (.slice a3 n3 k3)) = wz at fb bw L4 ⊢
  obtain ⟨t0, t1, t2, t3, t4, t5, t6⟩ := fb.cells7
  simp only at t0 t1 t2 t3 t4 t5 t6
  (try simp only [Exit.inBlock, Exit.then])
  refine bodyPost_ret (v := .agg #[(.slice a1 n1 k1), .int .i64 fam, (.slice a2 n2 k2), .int .i64 ts, .int .i64 seq, .int .i64 kind, (.slice a3 n3 k3)]) ?hres rfl ?_
  case hres => simp [results, Try.results19, go_sem, t0, t1, t2, t3, t4, t5, t6]
  exact ⟨⟨(.slice a1 n1 k1), fam, (.slice a2 n2 k2), ts, seq, kind, (.slice a3 n3 k3), row.take 5000, qual.take 5000, val.take 5000⟩, rfl, ⟨rfl, rfl, rfl, rfl, rfl, rfl, rfl⟩, LaidE.mono ⟨L4.1, L4.2.1, L4.2.2⟩ (by omega), bw⟩

set_option maxRecDepth 100000 in
set_option maxHeartbeats 4000000 in
theorem stands_any {a b : EntD} {B : Nat} {w : World} (ha : LaidE w B a) (hb : EntD.Ok w b) (h : EntD.Same a b) (hf : EntD.Fine a) :
    Calls Try.prog 22 #[.agg a.cells, .agg b.cells] w fun r w' => r = .returned (.bool true) ∧ Below w.heap.size w w' := by
  have A1 := (Below.refl w.heap.size w).alloc (Nat.le_refl _) (.cells a.cells 35)
  have A2 := A1.alloc A1.size (.cells b.cells 35)
  have bxa0 := (EBox.new w a).later ((Below.refl (w.alloc (.cells a.cells 35)).heap.size (w.alloc (.cells a.cells 35))).alloc (Nat.le_refl _) (.cells b.cells 35))
  have bxb0 := EBox.new (w.alloc (.cells a.cells 35)) b
  rw [World.size_alloc] at bxb0
  have HX : Hid (EBox _ w.heap.size a ∧ EBox _ (w.heap.size + 1) b ∧ Below w.heap.size w _) := ⟨bxa0, bxb0, A2⟩
  have HA : Hid (LaidE w B a) := ha
  have HB : Hid (EntD.Ok w b) := hb
  have HF : Hid (EntD.Fine a) := hf
  clear A1 A2 bxa0 bxb0 ha hb hf
  obtain ⟨e1, e2, e3, e4, e5, e6, e7⟩ := h
  obtain ⟨va, fa, qa, ta, sa, ka, wa, ra, la, ya⟩ := a
  obtain ⟨vb, fb, qb, tb, sb, kb, wb, rb, lb, yb⟩ := b
  simp only at e1 e2 e3 e4 e5 e6 e7
  subst e1 e2 e3 e4 e5 e6 e7
  simp only [EntD.cells] at *
  go_enter Try.func22, Try.ntmps22
  go_wp2_with fail
  refine (intact_any (HA.out.1.later HX.out.2.2) (HB.out.1.later HX.out.2.2) (by have := HF.out.1.2; simp only at this ⊢; omega)).mono ?_
  rintro e w1 ⟨rfl, hb1⟩
  have B1 := HX.out.2.2.trans (hb1.mono HX.out.2.2.size)
  have bxa1 : Hid (EBox w1 w.heap.size _) := HX.out.1.later hb1
  have bxb1 : Hid (EBox w1 (w.heap.size + 1) _) := HX.out.2.1.later hb1
  have x2 := bxa1.out.vq
  have y2 := bxb1.out.vq
  simp only at x2 y2
  clear HX hb1
  go_wp2_with fail
  refine (intact_any (HA.out.2.1.later B1) (HB.out.2.1.later B1) (by have := HF.out.2.1.2; simp only at this ⊢; omega)).mono ?_
  rintro e w2 ⟨rfl, hb2⟩
  have B2 := B1.trans (hb2.mono B1.size)
  have x6 := (bxa1.out.later hb2).vv
  have y6 := (bxb1.out.later hb2).vv
  simp only at x6 y6
  clear hb2 bxa1 bxb1 x2 y2 B1
  go_wp2_with fail
  refine (intact_any (HA.out.2.2.later B2) (HB.out.2.2.later B2) (by have := HF.out.2.2.2; simp only at this ⊢; omega)).mono ?_
  rintro e w3 ⟨rfl, hb3⟩
  go_wp2
  go_ret
  exact ⟨rfl, B2.trans (hb3.mono B2.size)⟩

end Go.Proofs.Ythpdlclgiggekaa

namespace Go.Proofs.Ythpdlclgiggekaa
open Go.RowKit
set_option linter.unusedVariables false

set_option maxRecDepth 100000 in
theorem ref1Same_any {a b : Value} {xs ys : List Nat} {w : World} (ha : Rd w a xs) (hb : Rd w b ys) :
    Calls Try.prog 71 #[a, b] w fun e w' => e = .returned (.bool (decide (xs = ys))) ∧ w' = w := by
  have h1 := conv_str ha
  have h2 := conv_str hb
  go_enter Try.func71, Try.ntmps71
  go_wp2
  go_ret
  exact ⟨by rw [← beq_str ha.1 hb.1]; rfl, rfl⟩
theorem refRO_at {v : Value} {bs L : List Nat} {w : World} {P E : Nat} (hr : Rd w v bs) (z : Int) (k : Nat) (hz : z = (k : Int)) (hk : k ≤ bs.length) (h47 : bs.length ≤ 140737488355328) (q : ordR bs k = (L, P, E)) :
    Calls Try.prog 69 #[v, .int .i64 z] w fun e w' => ∃ a m c, e = .returned (.tuple #[.slice a m c, .int .i64 (P : Int), .int .i64 (E : Int)]) ∧ Own w' w.heap.size (.slice a m c) m L ∧ Below w.heap.size w w' := by
  subst hz
  have := refReadOrdered_in hr k hk h47
  rw [q] at this
  exact this
theorem refRF_at {v : Value} {bs : List Nat} {w : World} {V P E : Nat} (hr : Rd w v bs) (z : Int) (k : Nat) (hz : z = (k : Int)) (hk : k ≤ bs.length) (q : fallR bs k = (V, P, E)) :
    Calls Try.prog 70 #[v, .int .i64 z] w fun e w' => e = .returned (.tuple #[.int .i64 (V : Int), .int .i64 (P : Int), .int .i64 (E : Int)]) ∧ w' = w := by
  subst hz
  have := refReadFalling_in hr k hk
  rw [q] at this
  exact this
theorem refRF_b {v : Value} {bs : List Nat} {w : World} {V P E : Nat} (hr : Rd w v bs) (z : Int) (k : Nat) (hz : z = (k : Int)) (hk : k ≤ bs.length) (q : fallR bs k = (V, P, E)) :
    Calls Try.prog 70 #[v, .int .i64 z] w fun e w' => e = .returned (.tuple #[.int .i64 (V : Int), .int .i64 (P : Int), .int .i64 (E : Int)]) ∧ Below w.heap.size w w' :=
  (refRF_at hr z k hz hk q).mono fun _ _ h => ⟨h.1, by rw [h.2]; exact Below.refl _ _⟩
theorem one_inv {bs : List Nat} {k x P : Nat} (hk : k ≤ bs.length) (h : oneR bs k = (x, P, false)) : k < bs.length ∧ x = bs.getD k 0 ∧ P = k + 1 := by
  unfold oneR at h
  split at h
  · simp at h
  · rename_i n
    simp only [Prod.mk.injEq] at h
    exact ⟨by omega, h.1.symm, h.2.1.symm⟩
theorem ord_le {bs row : List Nat} {k p E : Nat} (h : k ≤ bs.length) (q : ordR bs k = (row, p, E)) : p ≤ bs.length := by have := ordR_le bs k h; rw [q] at this; exact this
theorem fall_le {bs : List Nat} {k v p E : Nat} (h : k ≤ bs.length) (q : fallR bs k = (v, p, E)) : p ≤ bs.length := by have := fallR_le bs k h; rw [q] at this; exact this
theorem nat_entry {D : EntD} (hc : checkS D = 0) (hv : D.val = []) (a b c : Value) : checkS ⟨a, ((D.fam.toNat : Nat) : Int), b, ((D.ts.toNat : Nat) : Int), ((D.seq.toNat : Nat) : Int), ((D.kind.toNat : Nat) : Int), c, D.row, D.qual, []⟩ = 0 ∧ keyL ⟨a, ((D.fam.toNat : Nat) : Int), b, ((D.ts.toNat : Nat) : Int), ((D.seq.toNat : Nat) : Int), ((D.kind.toNat : Nat) : Int), c, D.row, D.qual, []⟩ = keyL D := by
  refine ⟨checkS_eq hc hv a b c, ?_⟩
  obtain ⟨_, f, _, _, t, s, k, _⟩ := check_facts hc
  rw [Int.toNat_of_nonneg f.1, Int.toNat_of_nonneg (show 0 ≤ D.ts by omega), Int.toNat_of_nonneg s.1, Int.toNat_of_nonneg (show 0 ≤ D.kind by omega)]
  exact keyL_val D a b c []

theorem parse_plain_facts {bs row qual : List Nat} {p1 p4 p6 p7 E1 E4 E6 E7 ts sq : Nat} (q1 : ordR bs 0 = (row, p1, E1)) (hfm : bs.getD (p1 + 1) 0 ≠ 0) (q4 : ordR bs (p1 + 2) = (qual, p4, E4)) (q6 : fallR bs (p4 + 1) = (ts, p6, E6)) (q7 : fallR bs p6 = (sq, p7, E7)) (a b c : Value) (h : IsKey bs) :
    E1 = 0 ∧ p1 + 2 ≤ bs.length ∧ E4 = 0 ∧ p4 + 1 ≤ bs.length ∧ E6 = 0 ∧ E7 = 0 ∧ p7 + 1 = bs.length ∧ checkS ⟨a, ((bs.getD p1 0 : Nat) : Int), b, (ts : Int), (sq : Int), ((bs.getD p7 0 : Nat) : Int), c, row, qual, []⟩ = 0 ∧ keyL ⟨a, ((bs.getD p1 0 : Nat) : Int), b, (ts : Int), (sq : Int), ((bs.getD p7 0 : Nat) : Int), c, row, qual, []⟩ = bs := by
  obtain ⟨D, hc, hv, hk⟩ := h
  have l1 := ord_le (Nat.zero_le _) q1
  by_cases k5 : D.kind = 5
  · exfalso
    obtain ⟨u1, u2, u3, u6, u7, r1, r2, r3, r6, r7, r8⟩ := reads_fam hc k5
    rw [hk] at r1 r2 r3
    rw [q1] at r1
    simp only [Prod.mk.injEq] at r1
    obtain ⟨rfl, rfl, rfl⟩ := r1
    obtain ⟨a2, b2, rfl⟩ := one_inv l1 r2
    obtain ⟨a3, b3, rfl⟩ := one_inv (by omega) r3
    exact hfm b3.symm
  · obtain ⟨u1, u2, u3, u4, u5, u6, u7, r1, r2, r3, r4, r5, r6, r7, r8⟩ := reads_plain hc k5
    rw [hk] at r1 r2 r3 r4 r5 r6 r7 r8
    rw [q1] at r1
    simp only [Prod.mk.injEq] at r1
    obtain ⟨e1, rfl, rfl⟩ := r1
    obtain ⟨a2, b2, rfl⟩ := one_inv l1 r2
    obtain ⟨a3, b3, rfl⟩ := one_inv (by omega) r3
    rw [q4] at r4
    simp only [Prod.mk.injEq] at r4
    obtain ⟨e4, rfl, rfl⟩ := r4
    have l4 := ord_le (by omega) q4
    obtain ⟨a5, b5, rfl⟩ := one_inv l4 r5
    rw [q6] at r6
    simp only [Prod.mk.injEq] at r6
    obtain ⟨e6, rfl, rfl⟩ := r6
    have l6 := fall_le (by omega) q6
    rw [q7] at r7
    simp only [Prod.mk.injEq] at r7
    obtain ⟨e7, rfl, rfl⟩ := r7
    have l7 := fall_le l6 q7
    obtain ⟨a8, b8, e8⟩ := one_inv l7 r8
    have n := nat_entry hc hv a b c
    rw [hk] at n
    rw [← b2, ← b8, e1, e4, e6, e7]
    exact ⟨rfl, by omega, rfl, by omega, rfl, rfl, e8.symm, n.1, n.2⟩
theorem parse_fam_facts {bs row : List Nat} {p1 p6 p7 E1 E6 E7 ts sq : Nat} (q1 : ordR bs 0 = (row, p1, E1)) (hfm : bs.getD (p1 + 1) 0 = 0) (q6 : fallR bs (p1 + 2) = (ts, p6, E6)) (q7 : fallR bs p6 = (sq, p7, E7)) (a b c : Value) (h : IsKey bs) :
    E1 = 0 ∧ p1 + 2 ≤ bs.length ∧ E6 = 0 ∧ E7 = 0 ∧ p7 + 1 = bs.length ∧ checkS ⟨a, ((bs.getD p1 0 : Nat) : Int), b, (ts : Int), (sq : Int), ((bs.getD p7 0 : Nat) : Int), c, row, [], []⟩ = 0 ∧ keyL ⟨a, ((bs.getD p1 0 : Nat) : Int), b, (ts : Int), (sq : Int), ((bs.getD p7 0 : Nat) : Int), c, row, [], []⟩ = bs := by
  obtain ⟨D, hc, hv, hk⟩ := h
  have l1 := ord_le (Nat.zero_le _) q1
  by_cases k5 : D.kind = 5
  · obtain ⟨u1, u2, u3, u6, u7, r1, r2, r3, r6, r7, r8⟩ := reads_fam hc k5
    rw [hk] at r1 r2 r3 r6 r7 r8
    rw [q1] at r1
    simp only [Prod.mk.injEq] at r1
    obtain ⟨e1, rfl, rfl⟩ := r1
    obtain ⟨a2, b2, rfl⟩ := one_inv l1 r2
    obtain ⟨a3, b3, rfl⟩ := one_inv (by omega) r3
    rw [q6] at r6
    simp only [Prod.mk.injEq] at r6
    obtain ⟨e6, rfl, rfl⟩ := r6
    have l6 := fall_le (by omega) q6
    rw [q7] at r7
    simp only [Prod.mk.injEq] at r7
    obtain ⟨e7, rfl, rfl⟩ := r7
    have l7 := fall_le l6 q7
    obtain ⟨a8, b8, e8⟩ := one_inv l7 r8
    have n := nat_entry hc hv a b c
    rw [hk, (check_facts hc).2.2.2.1 k5] at n
    rw [← b2, ← b8, e1, e6, e7]
    exact ⟨rfl, by omega, rfl, rfl, e8.symm, n.1, n.2⟩
  · exfalso
    obtain ⟨u1, u2, u3, u4, u5, u6, u7, r1, r2, r3, r4, r5, r6, r7, r8⟩ := reads_plain hc k5
    rw [hk] at r1 r2 r3
    rw [q1] at r1
    simp only [Prod.mk.injEq] at r1
    obtain ⟨e1, rfl, rfl⟩ := r1
    obtain ⟨a2, b2, rfl⟩ := one_inv l1 r2
    obtain ⟨a3, b3, rfl⟩ := one_inv (by omega) r3
    rw [hfm] at b3
    cases b3
end Go.Proofs.Ythpdlclgiggekaa

namespace Go.Proofs.Ythpdlclgiggekaa
open Go.RowKit
set_option linter.unusedVariables false

theorem Own.put {w : World} {B g i m : Nat} {u x : Value} {bs : List Nat} (h : Own w B u m bs) (hg : g < B) : Own (w.setCell ⟨g, i, none⟩ x) B u m bs := by
  refine ⟨h.1, h.2.1, ?_⟩
  rcases h.2.2 with h5 | ⟨g3, cap, cur, h5, h6, h7, h8⟩
  · exact .inl h5
  · refine .inr ⟨g3, cap, cur, h5, h6, ?_, h8⟩
    rw [Below.heap_setCell w ⟨g, i, none⟩ x g3 (by simp; omega)]
    exact h7
theorem Own.fillo {w : World} {B g m : Nat} {u : Value} {bs : List Nat} {D : EntD} (h : Own w B u m bs) (hg : g < B) : Own (filled w g D) B u m bs :=
  (((((((h.put hg).put hg).put hg).put hg).put hg).put hg).put hg)
theorem three_boxes : (∀ w : World, EBox (((w.alloc (.cells #[.slice none 0 0, .int .i64 0, .slice none 0 0, .int .i64 0, .int .i64 0, .int .i64 0, .slice none 0 0] 35)).alloc (.cells #[.slice none 0 0, .int .i64 0, .slice none 0 0, .int .i64 0, .int .i64 0, .int .i64 0, .slice none 0 0] 35)).alloc (.cells #[.slice none 0 0, .int .i64 0, .slice none 0 0, .int .i64 0, .int .i64 0, .int .i64 0, .slice none 0 0] 35)) (w.heap.size) ⟨.slice none 0 0, 0, .slice none 0 0, 0, 0, 0, .slice none 0 0, [], [], []⟩) ∧ (∀ w : World, EBox (((w.alloc (.cells #[.slice none 0 0, .int .i64 0, .slice none 0 0, .int .i64 0, .int .i64 0, .int .i64 0, .slice none 0 0] 35)).alloc (.cells #[.slice none 0 0, .int .i64 0, .slice none 0 0, .int .i64 0, .int .i64 0, .int .i64 0, .slice none 0 0] 35)).alloc (.cells #[.slice none 0 0, .int .i64 0, .slice none 0 0, .int .i64 0, .int .i64 0, .int .i64 0, .slice none 0 0] 35)) (w.heap.size + 1) ⟨.slice none 0 0, 0, .slice none 0 0, 0, 0, 0, .slice none 0 0, [], [], []⟩) ∧ (∀ w : World, EBox (((w.alloc (.cells #[.slice none 0 0, .int .i64 0, .slice none 0 0, .int .i64 0, .int .i64 0, .int .i64 0, .slice none 0 0] 35)).alloc (.cells #[.slice none 0 0, .int .i64 0, .slice none 0 0, .int .i64 0, .int .i64 0, .int .i64 0, .slice none 0 0] 35)).alloc (.cells #[.slice none 0 0, .int .i64 0, .slice none 0 0, .int .i64 0, .int .i64 0, .int .i64 0, .slice none 0 0] 35)) (w.heap.size + 1 + 1) ⟨.slice none 0 0, 0, .slice none 0 0, 0, 0, 0, .slice none 0 0, [], [], []⟩) := by
  refine ⟨fun w => ?_, fun w => ?_, fun w => ?_⟩
  · exact (((EBox.new w ⟨.slice none 0 0, 0, .slice none 0 0, 0, 0, 0, .slice none 0 0, [], [], []⟩).later ((Below.refl _ _).alloc (Nat.le_refl _) _)).later ((Below.refl _ _).alloc (Nat.le_refl _) _))
  · have h := EBox.new (w.alloc (.cells #[.slice none 0 0, .int .i64 0, .slice none 0 0, .int .i64 0, .int .i64 0, .int .i64 0, .slice none 0 0] 35)) ⟨.slice none 0 0, 0, .slice none 0 0, 0, 0, 0, .slice none 0 0, [], [], []⟩
    rw [World.size_alloc] at h
    exact h.later ((Below.refl _ _).alloc (Nat.le_refl _) _)
  · have h := EBox.new ((w.alloc (.cells #[.slice none 0 0, .int .i64 0, .slice none 0 0, .int .i64 0, .int .i64 0, .int .i64 0, .slice none 0 0] 35)).alloc (.cells #[.slice none 0 0, .int .i64 0, .slice none 0 0, .int .i64 0, .int .i64 0, .int .i64 0, .slice none 0 0] 35)) ⟨.slice none 0 0, 0, .slice none 0 0, 0, 0, 0, .slice none 0 0, [], [], []⟩
    rw [World.size_alloc, World.size_alloc] at h
    exact h


end Go.Proofs.Ythpdlclgiggekaa
