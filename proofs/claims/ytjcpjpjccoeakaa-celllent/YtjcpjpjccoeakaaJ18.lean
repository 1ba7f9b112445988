import Derived.Test.YtjcpjpjccoeakaaJ16
import Derived.Test.YtjcpjpjccoeakaaJ17
import Derived.Deep.RegionHeld3
namespace Go.Proofs.Ytjcpjpjccoeakaa
open Go.RowKit
set_option linter.unusedVariables false

/-- An entry whose byte strings have marks behind them. -/
def LaidE (w : World) (B : Nat) (D : EntD) : Prop := Laid w B D.vr D.row ∧ Laid w B D.vq D.qual ∧ Laid w B D.vv D.val
theorem LaidE.later {w w' : World} {B : Nat} {D : EntD} (h : LaidE w B D) (hb : Below w.heap.size w w') : LaidE w' B D := ⟨h.1.later hb, h.2.1.later hb, h.2.2.later hb⟩
theorem Laid.mono {w : World} {B B' : Nat} {u : Value} {bs : List Nat} (h : Laid w B u bs) (hB : B' ≤ B) : Laid w B' u bs := by
  obtain ⟨g, c, h1, h2, h3, h4⟩ := h
  exact ⟨g, c, h1, h2, h3, h4.mono hB⟩
theorem LaidE.mono {w : World} {B B' : Nat} {D : EntD} (h : LaidE w B D) (hB : B' ≤ B) : LaidE w B' D := ⟨h.1.mono hB, h.2.1.mono hB, h.2.2.mono hB⟩
/-- The data of an entry that entry() makes. -/
def EntD.cut (e : EntD) : EntD := { e with row := e.row.take 5000, qual := e.qual.take 5000, val := e.val.take 5000 }
/-- Data that may be handed out by entry(). -/
def EntD.Fine (e : EntD) : Prop := (Bys e.row ∧ e.row.length ≤ 5000) ∧ (Bys e.qual ∧ e.qual.length ≤ 5000) ∧ (Bys e.val ∧ e.val.length ≤ 5000)
theorem EntD.cut_fine {w : World} {e : EntD} (h : EntD.Ok w e) : EntD.Fine e.cut :=
  ⟨⟨fun x hx => h.1.1 x (List.mem_of_mem_take hx), by simp [EntD.cut]; omega⟩, ⟨fun x hx => h.2.1.1 x (List.mem_of_mem_take hx), by simp [EntD.cut]; omega⟩, ⟨fun x hx => h.2.2.1 x (List.mem_of_mem_take hx), by simp [EntD.cut]; omega⟩⟩
theorem EntD.Fine.same {a b : EntD} (h : EntD.Fine b) (s : EntD.Same a b) : EntD.Fine a := by
  unfold EntD.Fine at *
  rw [s.2.2.2.2.1, s.2.2.2.2.2.1, s.2.2.2.2.2.2]; exact h
theorem LaidE.ok {w : World} {B : Nat} {D : EntD} (h : LaidE w B D) (k : EntD.Fine D) : EntD.Ok w D := ⟨h.1.rd k.1.1 (by have := k.1.2; omega), h.2.1.rd k.2.1.1 (by have := k.2.1.2; omega), h.2.2.rd k.2.2.1 (by have := k.2.2.2; omega)⟩
theorem check_same {a b : EntD} (s : EntD.Same a b) : checkS a = checkS b := by
  obtain ⟨h1, h2, h3, h4, h5, h6, h7⟩ := s
  unfold checkS; rw [h1, h2, h3, h4, h5, h6, h7]
theorem keyL_same {a b : EntD} (s : EntD.Same a b) : keyL a = keyL b := by
  obtain ⟨h1, h2, h3, h4, h5, h6, h7⟩ := s
  unfold keyL; rw [h1, h2, h3, h4, h5, h6]
theorem packL_same {a b : EntD} (s : EntD.Same a b) : packL a = packL b := by
  unfold packL; rw [keyL_same s, s.2.2.2.2.2.2]

open Classical in
noncomputable def keyA (e : EntD) : List Nat := if checkS e = 0 then keyL e else []
open Classical in
noncomputable def packA (e : EntD) : List Nat := if checkS e = 0 then packL e else []
theorem keyA_same {a b : EntD} (s : EntD.Same a b) : keyA a = keyA b := by unfold keyA; rw [check_same s, keyL_same s]
theorem packA_same {a b : EntD} (s : EntD.Same a b) : packA a = packA b := by unfold packA; rw [check_same s, packL_same s]
theorem keyA_ok {e : EntD} (h : EntD.Fine e) : Bys (keyA e) ∧ (keyA e).length ≤ 6000 := by
  unfold keyA
  split
  · rename_i k
    exact ⟨keyL_bys h.1.1 h.2.1.1 k, by have := keyL_len2 k; omega⟩
  · exact ⟨by intro x hx; simp at hx, by simp⟩
theorem packA_ok {e : EntD} (h : EntD.Fine e) : Bys (packA e) ∧ (packA e).length ≤ 6000 := by
  unfold packA
  split
  · rename_i k
    exact ⟨packL_bys h.1.1 h.2.1.1 h.2.2.1 k, packL_len k⟩
  · exact ⟨by intro x hx; simp at hx, by simp⟩
theorem key_all {e : EntD} {w : World} (hok : EntD.Ok w e) :
    Calls Try.prog 23 #[.agg e.cells] w fun r w' => ∃ a m c, r = .returned (.tuple #[.slice a m c, .int .i64 ((checkS e : Nat) : Int)]) ∧ Own w' w.heap.size (.slice a m c) m (keyA e) ∧ Below w.heap.size w w' := by
  unfold keyA
  by_cases h : checkS e = 0
  · rw [if_pos h, h]; exact key_ok hok h
  · rw [if_neg h]
    refine (key_bad hok h).mono ?_
    rintro r w' ⟨rfl, hb⟩
    exact ⟨none, 0, 0, rfl, own_nil _ _, hb⟩
theorem pack_all {e : EntD} {w : World} (hok : EntD.Ok w e) :
    Calls Try.prog 27 #[.agg e.cells] w fun r w' => ∃ a m c, r = .returned (.tuple #[.slice a m c, .int .i64 ((checkS e : Nat) : Int)]) ∧ Own w' w.heap.size (.slice a m c) m (packA e) ∧ Below w.heap.size w w' := by
  unfold packA
  by_cases h : checkS e = 0
  · rw [if_pos h, h]; exact pack_ok hok h
  · rw [if_neg h]
    refine (pack_bad hok h).mono ?_
    rintro r w' ⟨rfl, hb⟩
    exact ⟨none, 0, 0, rfl, own_nil _ _, hb⟩
theorem refKey_all {e : EntD} {w : World} (hok : EntD.Ok w e) :
    Calls Try.prog 41 #[.agg e.cells] w fun r w' => ∃ a m c, r = .returned (.tuple #[.slice a m c, .int .i64 ((checkS e : Nat) : Int)]) ∧ Own w' w.heap.size (.slice a m c) m (keyA e) ∧ Below w.heap.size w w' := by
  unfold keyA
  by_cases h : checkS e = 0
  · rw [if_pos h, h]; exact refKey_ok hok h
  · rw [if_neg h]
    refine (refKey_bad hok h).mono ?_
    rintro r w' ⟨rfl, hb⟩
    exact ⟨none, 0, 0, rfl, own_nil _ _, hb⟩
theorem refPack_all {e : EntD} {w : World} (hok : EntD.Ok w e) :
    Calls Try.prog 42 #[.agg e.cells] w fun r w' => ∃ a m c, r = .returned (.tuple #[.slice a m c, .int .i64 ((checkS e : Nat) : Int)]) ∧ Own w' w.heap.size (.slice a m c) m (packA e) ∧ Below w.heap.size w w' := by
  unfold packA
  by_cases h : checkS e = 0
  · rw [if_pos h, h]; exact refPack_ok hok h
  · rw [if_neg h]
    refine (refPack_bad hok h).mono ?_
    rintro r w' ⟨rfl, hb⟩
    exact ⟨none, 0, 0, rfl, own_nil _ _, hb⟩

theorem Laid.put {w : World} {B g i : Nat} {u x : Value} {bs : List Nat} (h : Laid w B u bs) (hg : g < B) : Laid (w.setCell ⟨g, i, none⟩ x) B u bs := by
  obtain ⟨g2, c, h1, h2, h3, h4⟩ := h
  refine ⟨g2, c, h1, h2, h3, h4.1, h4.2.1, ?_⟩
  rcases h4.2.2 with h5 | ⟨g3, cap, cur, h5, h6, h7, h8⟩
  · exact .inl h5
  · refine .inr ⟨g3, cap, cur, h5, h6, ?_, h8⟩
    rw [Below.heap_setCell w ⟨g, i, none⟩ x g3 (by simp; omega)]
    exact h7
theorem Laid.form {w : World} {B : Nat} {u : Value} {bs : List Nat} (h : Laid w B u bs) : ∃ a n c, u = .slice a n c := by
  obtain ⟨g, c, h1, _⟩ := h
  exact ⟨_, _, _, h1⟩
theorem Laid.fill {w : World} {B g : Nat} {u : Value} {bs : List Nat} {D : EntD} (h : Laid w B u bs) (hg : g < B) : Laid (filled w g D) B u bs :=
  (((((((h.put hg).put hg).put hg).put hg).put hg).put hg).put hg)

set_option maxRecDepth 100000 in
set_option maxHeartbeats 4000000 in
theorem entry_any {e : EntD} {w : World} (hok : EntD.Ok w e) :
    Calls Try.prog 19 #[.agg e.cells] w fun r w' => ∃ D : EntD, r = .returned (.agg D.cells) ∧ EntD.Same D e.cut ∧ LaidE w' w.heap.size D ∧ Below w.heap.size w w' := by
  have A0 := (Below.refl w.heap.size w).alloc (Nat.le_refl _) (.cells e.cells 35)
  have A1 := A0.alloc A0.size (.cells zeroD.cells 35)
  have bx1 : Hid (EBox ((w.alloc (.cells e.cells 35)).alloc (.cells zeroD.cells 35)) w.heap.size e) := (EBox.new w e).later ((Below.refl _ _).alloc (Nat.le_refl _) _)
  have bg0 := EBox.new (w.alloc (.cells e.cells 35)) zeroD
  rw [World.size_alloc] at bg0
  have bg1 := Lib.hid bg0
  have HK : Hid (EntD.Ok w e) := hok
  clear hok bg0 A0
  obtain ⟨vr, fam, vq, ts, seq, kind, vv, row, qual, val⟩ := e
  simp only [EntD.cells, zeroD] at *
  go_enter Try.func19, Try.ntmps19
  go_wp2_with fail
  refine (laid_any (N := 5000) (HK.out.1.later A1) (by decide)).mono ?_
  rintro q w1 ⟨u1, rfl, l1, hb1⟩
  obtain ⟨a1, n1, k1, rfl⟩ := l1.form
  have hs1 : w.heap.size + 2 ≤ w1.heap.size := by have := hb1.size; simpa using this
  have B1 := (A1.trans (hb1.mono A1.size)).setCell (p := ⟨w.heap.size, 0, none⟩) (Nat.le_refl _) (.slice a1 n1 k1)
  have bx2 := bx1.out.later hb1
  have c0 := bx2.vr
  have f0 := bx2.fz 0
  have bx3 := bx2.set0 (.slice a1 n1 k1) (row.take 5000)
  have x2 := bx3.vq
  simp only at x2 c0
  have L1 : Hid (Laid (w1.setCell ⟨w.heap.size, 0, none⟩ (.slice a1 n1 k1)) (w.heap.size + 2) (.slice a1 n1 k1) (row.take 5000)) := (by have := l1; simp at this; exact this : Laid w1 (w.heap.size + 2) (.slice a1 n1 k1) (row.take 5000)).put (by omega)
  have HX3 := Lib.hid bx3
  have bg2 := Lib.hid ((bg1.out.later hb1).apart (apart_set w1 w.heap.size 0 (.slice a1 n1 k1)) (by omega))
  clear l1 hb1 A1 bx1 bx2 bx3 bg1
  go_wp2_with fail
  refine (laid_any (N := 5000) (HK.out.2.1.later B1) (by decide)).mono ?_
  rintro q w2 ⟨u2, rfl, l2, hb2⟩
  obtain ⟨a2, n2, k2, rfl⟩ := l2.form
  have hs2 : w.heap.size + 2 ≤ w2.heap.size := Nat.le_trans (by simpa using hs1) hb2.size
  have B2 := (B1.trans (hb2.mono B1.size)).setCell (p := ⟨w.heap.size, 2, none⟩) (Nat.le_refl _) (.slice a2 n2 k2)
  have bx4 := HX3.out.later hb2
  have c2 := bx4.vq
  have f2 := bx4.fz 2
  have bx5 := bx4.set2 (.slice a2 n2 k2) (qual.take 5000)
  have x6 := bx5.vv
  simp only at x6 c2
  have L2 : Hid (Laid (w2.setCell ⟨w.heap.size, 2, none⟩ (.slice a2 n2 k2)) (w.heap.size + 2) (.slice a1 n1 k1) (row.take 5000) ∧ Laid (w2.setCell ⟨w.heap.size, 2, none⟩ (.slice a2 n2 k2)) (w.heap.size + 2) (.slice a2 n2 k2) (qual.take 5000)) := ⟨(L1.out.later hb2).put (by omega), (l2.mono (by simpa using hs1)).put (by omega)⟩
  have HX5 := Lib.hid bx5
  have bg3 := Lib.hid ((bg2.out.later hb2).apart (apart_set w2 w.heap.size 2 (.slice a2 n2 k2)) (by omega))
  clear l2 hb2 bx4 bx5 HX3 L1 c0 f0 x2 B1 bg2
  go_wp2_with fail
  refine (laid_any (N := 5000) (HK.out.2.2.later B2) (by decide)).mono ?_
  rintro q w3 ⟨u3, rfl, l3, hb3⟩
  obtain ⟨a3, n3, k3, rfl⟩ := l3.form
  have B3 := (B2.trans (hb3.mono B2.size)).setCell (p := ⟨w.heap.size, 6, none⟩) (Nat.le_refl _) (.slice a3 n3 k3)
  have bx6 := HX5.out.later hb3
  have bx7 := bx6.set6 (.slice a3 n3 k3) (val.take 5000)
  have L3 : Laid (w3.setCell ⟨w.heap.size, 6, none⟩ (.slice a3 n3 k3)) (w.heap.size + 2) (.slice a1 n1 k1) (row.take 5000) ∧ Laid (w3.setCell ⟨w.heap.size, 6, none⟩ (.slice a3 n3 k3)) (w.heap.size + 2) (.slice a2 n2 k2) (qual.take 5000) ∧ Laid (w3.setCell ⟨w.heap.size, 6, none⟩ (.slice a3 n3 k3)) (w.heap.size + 2) (.slice a3 n3 k3) (val.take 5000) := ⟨(L2.out.1.later hb3).put (by omega), (L2.out.2.later hb3).put (by omega), (l3.mono (by simpa using hs2)).put (by omega)⟩
  have bg4 := (bg3.out.later hb3).apart (apart_set w3 w.heap.size 6 (.slice a3 n3 k3)) (by omega)
  obtain ⟨D, hD⟩ : ∃ D : EntD, D = ⟨(.slice a1 n1 k1), fam, (.slice a2 n2 k2), ts, seq, kind, (.slice a3 n3 k3), row.take 5000, qual.take 5000, val.take 5000⟩ := ⟨_, rfl⟩
  have fb := filled_box bg4 D
  have bw := B3.trans ((filled_apart (w3.setCell ⟨w.heap.size, 6, none⟩ (.slice a3 n3 k3)) (w.heap.size + 1) D).below (by omega) B3.size)
  have L4 : Laid (filled (w3.setCell ⟨w.heap.size, 6, none⟩ (.slice a3 n3 k3)) (w.heap.size + 1) D) (w.heap.size + 2) (.slice a1 n1 k1) (row.take 5000) ∧ Laid (filled (w3.setCell ⟨w.heap.size, 6, none⟩ (.slice a3 n3 k3)) (w.heap.size + 1) D) (w.heap.size + 2) (.slice a2 n2 k2) (qual.take 5000) ∧ Laid (filled (w3.setCell ⟨w.heap.size, 6, none⟩ (.slice a3 n3 k3)) (w.heap.size + 1) D) (w.heap.size + 2) (.slice a3 n3 k3) (val.take 5000) := ⟨L3.1.fill (by omega), L3.2.1.fill (by omega), L3.2.2.fill (by omega)⟩
  rw [hD] at fb bw L4
  have HDN : Hid (_ ∧ _ ∧ _) := ⟨fb, bw, L4⟩
  obtain ⟨z0, z1, z2, z3, z4, z5, z6⟩ := bx6.cells7
  obtain ⟨zf0, zf1, zf2, zf3, zf4, zf5, zf6⟩ := bx6.fz7
  obtain ⟨y0, y1, y2, y3, y4, y5, y6⟩ := bx7.cells7
  obtain ⟨g0, g1, g2, g3, g4, g5, g6⟩ := bg4.cells7
  obtain ⟨gf0, gf1, gf2, gf3, gf4, gf5, gf6⟩ := bg4.fz7
  simp only at y0 y1 y2 y3 y4 y5 y6 g0 g1 g2 g3 g4 g5 g6 z6
  clear l3 hb3 bx6 bx7 HX5 L2 L3 L4 c2 f2 x6 B2 B3 fb bw bg4 bg3 hD z0 z1 z2 z3 z4 z5
  simp only [filled] at HDN
  go_wp2
  obtain ⟨fb, bw, L4⟩ := HDN.out
  clear HDN
  generalize ((((((((w3.setCell ⟨w.heap.size, 6, none⟩ (.slice a3 n3 k3)).setCell ⟨w.heap.size + 1, 0, none⟩ (.slice a1 n1 k1)).setCell ⟨w.heap.size + 1, 1, none⟩ (.int .i64 fam)).setCell ⟨w.heap.size + 1, 2, none⟩ (.slice a2 n2 k2)).setCell ⟨w.heap.size + 1, 3, none⟩ (.int .i64 ts)).setCell ⟨w.heap.size + 1, 4, none⟩ (.int .i64 seq)).setCell ⟨w.heap.size + 1, 5, none⟩ (.int .i64 kind)).setCell ⟨w.heap.size + 1, 6, none⟩ (.slice a3 n3 k3)) = wz at fb bw L4 ⊢
  obtain ⟨t0, t1, t2, t3, t4, t5, t6⟩ := fb.cells7
  simp only at t0 t1 t2 t3 t4 t5 t6
  (try simp only [Exit.inBlock, Exit.then])
  refine bodyPost_ret (v := .agg #[(.slice a1 n1 k1), .int .i64 fam, (.slice a2 n2 k2), .int .i64 ts, .int .i64 seq, .int .i64 kind, (.slice a3 n3 k3)]) ?hres rfl ?_
  case hres => simp [results, Try.results19, go_sem, t0, t1, t2, t3, t4, t5, t6]
  exact ⟨⟨(.slice a1 n1 k1), fam, (.slice a2 n2 k2), ts, seq, kind, (.slice a3 n3 k3), row.take 5000, qual.take 5000, val.take 5000⟩, rfl, ⟨rfl, rfl, rfl, rfl, rfl, rfl, rfl⟩, LaidE.mono ⟨L4.1, L4.2.1, L4.2.2⟩ (by omega), bw⟩

set_option maxRecDepth 100000 in
set_option maxHeartbeats 4000000 in
theorem stands_any {a b : EntD} {B : Nat} {w : World} (ha : LaidE w B a) (hb : EntD.Ok w b) (h : EntD.Same a b) (hf : EntD.Fine a) :
    Calls Try.prog 22 #[.agg a.cells, .agg b.cells] w fun r w' => r = .returned (.bool true) ∧ Below w.heap.size w w' := by
  have A1 := (Below.refl w.heap.size w).alloc (Nat.le_refl _) (.cells a.cells 35)
  have A2 := A1.alloc A1.size (.cells b.cells 35)
  have bxa0 := (EBox.new w a).later ((Below.refl (w.alloc (.cells a.cells 35)).heap.size (w.alloc (.cells a.cells 35))).alloc (Nat.le_refl _) (.cells b.cells 35))
  have bxb0 := EBox.new (w.alloc (.cells a.cells 35)) b
  rw [World.size_alloc] at bxb0
  have HX : Hid (EBox _ w.heap.size a ∧ EBox _ (w.heap.size + 1) b ∧ Below w.heap.size w _) := ⟨bxa0, bxb0, A2⟩
  have HA : Hid (LaidE w B a) := ha
  have HB : Hid (EntD.Ok w b) := hb
  have HF : Hid (EntD.Fine a) := hf
  clear A1 A2 bxa0 bxb0 ha hb hf
  obtain ⟨e1, e2, e3, e4, e5, e6, e7⟩ := h
  obtain ⟨va, fa, qa, ta, sa, ka, wa, ra, la, ya⟩ := a
  obtain ⟨vb, fb, qb, tb, sb, kb, wb, rb, lb, yb⟩ := b
  simp only at e1 e2 e3 e4 e5 e6 e7
  subst e1 e2 e3 e4 e5 e6 e7
  simp only [EntD.cells] at *
  go_enter Try.func22, Try.ntmps22
  go_wp2_with fail
  refine (intact_any (HA.out.1.later HX.out.2.2) (HB.out.1.later HX.out.2.2) (by have := HF.out.1.2; simp only at this ⊢; omega)).mono ?_
  rintro e w1 ⟨rfl, hb1⟩
  have B1 := HX.out.2.2.trans (hb1.mono HX.out.2.2.size)
  have bxa1 : Hid (EBox w1 w.heap.size _) := HX.out.1.later hb1
  have bxb1 : Hid (EBox w1 (w.heap.size + 1) _) := HX.out.2.1.later hb1
  have x2 := bxa1.out.vq
  have y2 := bxb1.out.vq
  simp only at x2 y2
  clear HX hb1
  go_wp2_with fail
  refine (intact_any (HA.out.2.1.later B1) (HB.out.2.1.later B1) (by have := HF.out.2.1.2; simp only at this ⊢; omega)).mono ?_
  rintro e w2 ⟨rfl, hb2⟩
  have B2 := B1.trans (hb2.mono B1.size)
  have x6 := (bxa1.out.later hb2).vv
  have y6 := (bxb1.out.later hb2).vv
  simp only at x6 y6
  clear hb2 bxa1 bxb1 x2 y2 B1
  go_wp2_with fail
  refine (intact_any (HA.out.2.2.later B2) (HB.out.2.2.later B2) (by have := HF.out.2.2.2; simp only at this ⊢; omega)).mono ?_
  rintro e w3 ⟨rfl, hb3⟩
  go_wp2
  go_ret
  exact ⟨rfl, B2.trans (hb3.mono B2.size)⟩

end Go.Proofs.Ytjcpjpjccoeakaa

namespace Go.Proofs.Ytjcpjpjccoeakaa
open Go.RowKit
set_option linter.unusedVariables false

/-- Three comparisons that fit. -/
def Tri (a b c : Int) : Prop := (a ≤ 0 ∧ b ≤ 0 → c ≤ 0) ∧ (0 ≤ a ∧ 0 ≤ b → 0 ≤ c) ∧ (a ≤ 0 ∧ b ≤ 0 ∧ c = 0 → a = 0 ∧ b = 0) ∧ (0 ≤ a ∧ 0 ≤ b ∧ c = 0 → a = 0 ∧ b = 0) ∧ (a = 0 → c = b) ∧ (b = 0 → c = a)
theorem tri_cmpI (x y z : Int) : Tri (cmpI x y) (cmpI y z) (cmpI x z) := by
  unfold Tri cmpI
  repeat' split
  all_goals omega
theorem tri_lex {a b c a' b' c' : Int} (h : Tri a b c) (k : Tri a' b' c') : Tri (if a = 0 then a' else a) (if b = 0 then b' else b) (if c = 0 then c' else c) := by
  unfold Tri at *
  obtain ⟨h1, h2, h3, h4, h5, h6⟩ := h
  by_cases ha : a = 0
  · by_cases hb : b = 0
    · have hc : c = 0 := by rw [h5 ha]; exact hb
      rw [if_pos ha, if_pos hb, if_pos hc]; exact k
    · have hc : c = b := h5 ha
      have hc0 : ¬ c = 0 := by omega
      rw [if_pos ha, if_neg hb, if_neg hc0]
      refine ⟨?_, ?_, ?_, ?_, ?_, ?_⟩ <;> omega
  · by_cases hb : b = 0
    · have hc : c = a := h6 hb
      have hc0 : ¬ c = 0 := by omega
      rw [if_neg ha, if_pos hb, if_neg hc0]
      refine ⟨?_, ?_, ?_, ?_, ?_, ?_⟩ <;> omega
    · rw [if_neg ha, if_neg hb]
      by_cases hc : c = 0
      · rw [if_pos hc]
        have e1 : ¬ (a ≤ 0 ∧ b ≤ 0) := fun e => ha (h3 ⟨e.1, e.2, hc⟩).1
        have e2 : ¬ (0 ≤ a ∧ 0 ≤ b) := fun e => ha (h4 ⟨e.1, e.2, hc⟩).1
        refine ⟨?_, ?_, ?_, ?_, ?_, ?_⟩ <;> omega
      · rw [if_neg hc]; exact ⟨h1, h2, h3, h4, h5, h6⟩
theorem tri_zero : Tri 0 0 0 := by unfold Tri; omega
theorem ordC_cons (x y : Nat) (a b : List Nat) : ordC (x :: a) (y :: b) = if cmpI (x : Int) (y : Int) = 0 then ordC a b else cmpI (x : Int) (y : Int) := by
  have e : ordC (x :: a) (y :: b) = if x < y then -1 else if y < x then 1 else ordC a b := rfl
  rw [e]
  unfold cmpI
  by_cases h1 : x < y
  · simp [h1]
  · by_cases h2 : y < x
    · have : ¬ (x : Int) < y := by omega
      simp [h1, h2]
    · simp [h1, h2]
theorem tri_ordC : ∀ (x y z : List Nat), Tri (ordC x y) (ordC y z) (ordC x z)
  | [], [], [] => by simp only [ordC]; exact tri_zero
  | [], [], _ :: _ => by simp only [ordC]; unfold Tri; omega
  | [], _ :: _, [] => by simp only [ordC]; unfold Tri; omega
  | [], y :: b, z :: c => by
    have h : ordC [] (y :: b) = -1 := rfl
    have h2 : ordC [] (z :: c) = -1 := rfl
    rw [h, h2]; unfold Tri; omega
  | _ :: _, [], [] => by simp only [ordC]; unfold Tri; omega
  | x :: a, [], z :: c => by
    have h : ordC (x :: a) [] = 1 := rfl
    have h2 : ordC [] (z :: c) = -1 := rfl
    rw [h, h2]; unfold Tri; omega
  | x :: a, y :: b, [] => by
    have h : ordC (y :: b) [] = 1 := rfl
    have h2 : ordC (x :: a) [] = 1 := rfl
    rw [h, h2]; unfold Tri; omega
  | x :: a, y :: b, z :: c => by
    rw [ordC_cons, ordC_cons, ordC_cons]
    exact tri_lex (tri_cmpI _ _ _) (tri_ordC a b c)
theorem cmpI_swap (a b : Int) : cmpI b a = -cmpI a b := by
  unfold cmpI
  repeat' split
  all_goals omega
theorem lex_neg {a a' b b' : Int} (h : b = -a) (k : b' = -a') : (if b = 0 then b' else b) = -(if a = 0 then a' else a) := by
  subst h k
  by_cases ha : a = 0
  · rw [if_pos ha, if_pos (by omega)]
  · rw [if_neg ha, if_neg (by omega)]
theorem compareS_tri (x y z : EntD) : Tri (compareS x y) (compareS y z) (compareS x z) := by
  unfold compareS cmpsS
  simp only [firstNZ]
  have rev : ∀ a b c : Int, Tri (cmpI b a) (cmpI c b) (cmpI c a) := fun a b c => by
    rw [cmpI_swap a b, cmpI_swap b c, cmpI_swap a c]
    have h := tri_cmpI a b c
    unfold Tri at *
    omega
  refine tri_lex (tri_ordC _ _ _) (tri_lex (tri_cmpI _ _ _) (tri_lex ?_ (tri_lex (tri_ordC _ _ _) (tri_lex ?_ (tri_lex (rev _ _ _) (tri_lex (rev _ _ _) (tri_lex (tri_cmpI _ _ _) tri_zero)))))))
  · exact tri_cmpI _ _ _
  · exact tri_cmpI _ _ _
theorem compareS_swap (x y : EntD) : compareS y x = -compareS x y := by
  unfold compareS cmpsS
  simp only [firstNZ]
  exact lex_neg (ordC_swap _ _) (lex_neg (cmpI_swap _ _) (lex_neg (cmpI_swap _ _) (lex_neg (ordC_swap _ _) (lex_neg (cmpI_swap _ _) (lex_neg (cmpI_swap _ _) (lex_neg (cmpI_swap _ _) (lex_neg (cmpI_swap _ _) (by omega))))))))
theorem compareS_self (x : EntD) : compareS x x = 0 := by
  have := compareS_swap x x
  omega
theorem lex_small {a b : Int} (h : -1 ≤ a ∧ a ≤ 1) (k : -1 ≤ b ∧ b ≤ 1) : -1 ≤ (if a = 0 then b else a) ∧ (if a = 0 then b else a) ≤ 1 := by split <;> assumption
theorem cmpI_small (a b : Int) : -1 ≤ cmpI a b ∧ cmpI a b ≤ 1 := by
  unfold cmpI
  by_cases h : a < b
  · rw [if_pos h]; omega
  · rw [if_neg h]
    by_cases h2 : b < a
    · rw [if_pos h2]; omega
    · rw [if_neg h2]; omega
theorem ordC_small : ∀ (a b : List Nat), -1 ≤ ordC a b ∧ ordC a b ≤ 1
  | [], [] => by simp [ordC]
  | [], _ :: _ => by simp [ordC]
  | _ :: _, [] => by simp [ordC]
  | x :: a, y :: b => by rw [ordC_cons]; exact lex_small (cmpI_small _ _) (ordC_small a b)
theorem compareS_small (x y : EntD) : -1 ≤ compareS x y ∧ compareS x y ≤ 1 := by
  unfold compareS cmpsS
  simp only [firstNZ]
  exact lex_small (ordC_small _ _) (lex_small (cmpI_small _ _) (lex_small (cmpI_small _ _) (lex_small (ordC_small _ _) (lex_small (cmpI_small _ _) (lex_small (cmpI_small _ _) (lex_small (cmpI_small _ _) (lex_small (cmpI_small _ _) (by omega))))))))
theorem compareS_same {a b c d : EntD} (h : EntD.Same a c) (k : EntD.Same b d) : compareS a b = compareS c d := by
  obtain ⟨h1, h2, h3, h4, h5, h6, h7⟩ := h
  obtain ⟨k1, k2, k3, k4, k5, k6, k7⟩ := k
  unfold compareS cmpsS aheadS
  rw [h1, h2, h3, h4, h5, h6, k1, k2, k3, k4, k5, k6]

set_option maxRecDepth 100000 in
theorem refFirst_any (a b : Bool) (w : World) : Calls Try.prog 58 #[.bool a, .bool b] w fun e w' => e = .returned (.int .i64 (cmpI (if a then 0 else 1) (if b then 0 else 1))) ∧ w' = w := by
  cases a <;> cases b <;>
  · go_enter Try.func58, Try.ntmps58
    go_wp2
    go_ret
    exact ⟨rfl, rfl⟩

theorem refFirst_ahead {a b : EntD} (k : Int) {p q : Bool} (hp : p = true ↔ a.kind = k) (hq : q = true ↔ b.kind = k) (w : World) : Calls Try.prog 58 #[.bool p, .bool q] w fun e w' => e = .returned (.int .i64 (aheadS a b k)) ∧ w' = w := by
  have h := refFirst_any p q w
  have e : cmpI (if p = true then 0 else 1) (if q = true then 0 else 1) = aheadS a b k := by
    unfold aheadS mark
    by_cases h1 : a.kind = k <;> by_cases h2 : b.kind = k <;> simp [h1, h2, hp, hq]
  rw [e] at h
  exact h

end Go.Proofs.Ytjcpjpjccoeakaa

namespace Go.Proofs.Ytjcpjpjccoeakaa
open Go.RowKit
set_option linter.unusedVariables false

set_option maxRecDepth 100000 in
set_option maxHeartbeats 8000000 in
theorem refCompare_any {a b : EntD} {w : World} (ha : EntD.Ok w a) (hb : EntD.Ok w b) :
    Calls Try.prog 21 #[.agg a.cells, .agg b.cells] w fun r w' => r = .returned (.int .i64 (compareS a b)) ∧ Below w.heap.size w w' := by
  have A1 := (Below.refl w.heap.size w).alloc (Nat.le_refl _) (.cells a.cells 35)
  have A2 := A1.alloc A1.size (.cells b.cells 35)
  have bxa0 := (EBox.new w a).later ((Below.refl (w.alloc (.cells a.cells 35)).heap.size (w.alloc (.cells a.cells 35))).alloc (Nat.le_refl _) (.cells b.cells 35))
  have bxb0 := EBox.new (w.alloc (.cells a.cells 35)) b
  rw [World.size_alloc] at bxb0
  have HX : Hid (EBox ((w.alloc (.cells a.cells 35)).alloc (.cells b.cells 35)) w.heap.size a ∧ EBox ((w.alloc (.cells a.cells 35)).alloc (.cells b.cells 35)) (w.heap.size + 1) b ∧ Below w.heap.size w ((w.alloc (.cells a.cells 35)).alloc (.cells b.cells 35))) := ⟨bxa0, bxb0, A2⟩
  have HA : Hid (EntD.Ok w a) := ha
  have HB : Hid (EntD.Ok w b) := hb
  have HCS : Hid (compareS a b = firstNZ (cmpsS a b)) := rfl
  clear A1 A2 bxa0 bxb0 ha hb
  simp only [EntD.cells] at HX ⊢
  obtain ⟨W, hW⟩ : ∃ W, W = ((w.alloc (.cells #[a.vr, .int .i64 a.fam, a.vq, .int .i64 a.ts, .int .i64 a.seq, .int .i64 a.kind, a.vv] 35)).alloc (.cells #[b.vr, .int .i64 b.fam, b.vq, .int .i64 b.ts, .int .i64 b.seq, .int .i64 b.kind, b.vv] 35)) := ⟨_, rfl⟩
  rw [← hW] at HX
  have KS : Hid (∀ wx, Below W.heap.size W wx → (wx.cell? ⟨w.heap.size, 0, none⟩ = some a.vr ∧ wx.cell? ⟨w.heap.size, 1, none⟩ = some (.int .i64 a.fam) ∧ wx.cell? ⟨w.heap.size, 2, none⟩ = some a.vq ∧ wx.cell? ⟨w.heap.size, 3, none⟩ = some (.int .i64 a.ts) ∧ wx.cell? ⟨w.heap.size, 4, none⟩ = some (.int .i64 a.seq) ∧ wx.cell? ⟨w.heap.size, 5, none⟩ = some (.int .i64 a.kind)) ∧ (wx.cell? ⟨w.heap.size + 1, 0, none⟩ = some b.vr ∧ wx.cell? ⟨w.heap.size + 1, 1, none⟩ = some (.int .i64 b.fam) ∧ wx.cell? ⟨w.heap.size + 1, 2, none⟩ = some b.vq ∧ wx.cell? ⟨w.heap.size + 1, 3, none⟩ = some (.int .i64 b.ts) ∧ wx.cell? ⟨w.heap.size + 1, 4, none⟩ = some (.int .i64 b.seq) ∧ wx.cell? ⟨w.heap.size + 1, 5, none⟩ = some (.int .i64 b.kind))) := fun wx h => by
    have e1 := HX.out.1.later h
    have e2 := HX.out.2.1.later h
    exact ⟨⟨e1.vr, e1.fam, e1.vq, e1.ts, e1.seq, e1.kind⟩, ⟨e2.vr, e2.fam, e2.vq, e2.ts, e2.seq, e2.kind⟩⟩
  have D0 : Below W.heap.size W W.drew := (Below.refl _ _).drew
  have RA : Hid (∀ wx, Below W.heap.size W wx → EntD.Ok wx a ∧ EntD.Ok wx b) := fun wx h => ⟨(HA.out.later HX.out.2.2).later h, (HB.out.later HX.out.2.2).later h⟩
  go_enter Try.func21, Try.ntmps21
  go_wp2_with fail
  rw [← hW]
  clear hW
  go_region_held3 (fun wx => (wx.cell? ⟨w.heap.size, 0, none⟩ = some a.vr ∧ wx.cell? ⟨w.heap.size, 1, none⟩ = some (.int .i64 a.fam) ∧ wx.cell? ⟨w.heap.size, 2, none⟩ = some a.vq ∧ wx.cell? ⟨w.heap.size, 3, none⟩ = some (.int .i64 a.ts) ∧ wx.cell? ⟨w.heap.size, 4, none⟩ = some (.int .i64 a.seq) ∧ wx.cell? ⟨w.heap.size, 5, none⟩ = some (.int .i64 a.kind)) ∧ (wx.cell? ⟨w.heap.size + 1, 0, none⟩ = some b.vr ∧ wx.cell? ⟨w.heap.size + 1, 1, none⟩ = some (.int .i64 b.fam) ∧ wx.cell? ⟨w.heap.size + 1, 2, none⟩ = some b.vq ∧ wx.cell? ⟨w.heap.size + 1, 3, none⟩ = some (.int .i64 b.ts) ∧ wx.cell? ⟨w.heap.size + 1, 4, none⟩ = some (.int .i64 b.seq) ∧ wx.cell? ⟨w.heap.size + 1, 5, none⟩ = some (.int .i64 b.kind)))
    (first | exact KS.out _ D0 | exact KS.out _ DD1 | exact KS.out _ DD2 | exact KS.out _ (DD2.alloc DD2.size _))
    (first
      | (go_at_call 57; refine (refNumber_any _ _ _).mono ?_; rintro e wn ⟨rfl, rfl⟩)
      | (go_at_call 58; have _t := T5.out; refine (refFirst_ahead (a := a) (b := b) 4 (by simp) (by simp) _).mono ?_; rintro e wn ⟨rfl, rfl⟩)
      | (go_at_call 58; refine (refFirst_ahead (a := a) (b := b) 5 (by simp) (by simp) _).mono ?_; rintro e wn ⟨rfl, rfl⟩; have T5 : Hid True := trivial)
      | (go_at_call 37; refine (refBytesOrd_any (RA.out _ DD1).1.2.1 (RA.out _ DD1).2.2.1).mono ?_; rintro e4 w4 ⟨rfl, hb4⟩; have DD2 := DD1.trans (hb4.mono DD1.size))
      | (go_at_call 37; refine (refBytesOrd_any (RA.out _ D0).1.1 (RA.out _ D0).2.1).mono ?_; rintro e3 w3 ⟨rfl, hb3⟩; have DD1 := D0.trans (hb3.mono D0.size)))
  have DW := HX.out.2.2.trans (DD2.mono HX.out.2.2.size)
  have DA := DW.alloc DW.size (.cells #[.int .i64 (ordC a.row b.row), .int .i64 (cmpI a.fam b.fam), .int .i64 (aheadS a b 5), .int .i64 (ordC a.qual b.qual), .int .i64 (aheadS a b 4), .int .i64 (cmpI b.ts a.ts), .int .i64 (cmpI b.seq a.seq), .int .i64 (cmpI a.kind b.kind)] 3)
  obtain ⟨U, hU⟩ : ∃ U, U = wn.alloc (.cells #[.int .i64 (ordC a.row b.row), .int .i64 (cmpI a.fam b.fam), .int .i64 (aheadS a b 5), .int .i64 (ordC a.qual b.qual), .int .i64 (aheadS a b 4), .int .i64 (cmpI b.ts a.ts), .int .i64 (cmpI b.seq a.seq), .int .i64 (cmpI a.kind b.kind)] 3) := ⟨_, rfl⟩
  have HCL : Hid (∀ t, t < 8 → U.cell? ⟨wn.heap.size, t, none⟩ = some (.int .i64 ((cmpsS a b).getD t 0))) := fun t ht => by
    have hh : U.heap[wn.heap.size]? = some (.cells #[.int .i64 (ordC a.row b.row), .int .i64 (cmpI a.fam b.fam), .int .i64 (aheadS a b 5), .int .i64 (ordC a.qual b.qual), .int .i64 (aheadS a b 4), .int .i64 (cmpI b.ts a.ts), .int .i64 (cmpI b.seq a.seq), .int .i64 (cmpI a.kind b.kind)] 3) := by rw [hU]; exact heap_new wn _
    have hc : ∀ j, U.cell? ⟨wn.heap.size, j, none⟩ = (#[.int .i64 (ordC a.row b.row), .int .i64 (cmpI a.fam b.fam), .int .i64 (aheadS a b 5), .int .i64 (ordC a.qual b.qual), .int .i64 (aheadS a b 4), .int .i64 (cmpI b.ts a.ts), .int .i64 (cmpI b.seq a.seq), .int .i64 (cmpI a.kind b.kind)] : Array Value)[j]? := fun j => by simp [World.cell?, hh]
    rw [hc]
    match t, ht with
    | 0, _ => rfl
    | 1, _ => rfl
    | 2, _ => rfl
    | 3, _ => rfl
    | 4, _ => rfl
    | 5, _ => rfl
    | 6, _ => rfl
    | 7, _ => rfl
  rw [← hU] at DA ⊢
  have HDA := Lib.hid DA
  have HLL : Hid ((cmpsS a b).length = 8) := rfl
  obtain ⟨l, hl⟩ : ∃ l, l = cmpsS a b := ⟨_, rfl⟩
  rw [← hl] at HCL HLL HCS
  obtain ⟨G, hG⟩ : ∃ G, G = wn.heap.size := ⟨_, rfl⟩
  rw [← hG] at HCL ⊢
  clear DA DW hU DD1 DD2 KS RA D0 HX HA HB hl hG
  rename_i hXX
  clear hXX
  go_wp2
  go_loopw [6] (fun i wr => ∃ t : Nat, t ≤ 8 ∧ i = .int .i64 (t : Int) ∧ Hid (∀ j, j < t → l.getD j 0 = 0) ∧ wr = U) (fun i _ => 8 - (intOf i).toNat)
  case atStart => exact ⟨0, by omega, rfl, fun j hj => by omega, rfl⟩
  case round =>
    obtain ⟨t, ht, rfl, hz, rfl⟩ := hrel
    by_cases hlt : t < 8
    · have hlt2 : (t : Int) < 8 := by omega
      have ht0 : (0 : Int) ≤ (t : Int) := by omega
      have ct := HCL.out t hlt
      obtain ⟨v, hv⟩ : ∃ v, v = l.getD t 0 := ⟨_, rfl⟩
      rw [← hv] at ct
      have HV := Lib.hid hv
      clear hv
      by_cases h0 : v = 0
      · subst h0
        go_wp2
        go_roundw
        case rel => exact ⟨t + 1, by omega, by go_num, fun j hj => by
          by_cases hjt : j = t
          · subst hjt; exact HV.out.symm
          · exact hz.out j (by omega), trivial⟩
        case measure => simp [intOf]; omega
      · have h1 : (v != 0) = true := by simpa using h0
        have h2 : (v == 0) = false := by simpa using h0
        have HR : Hid (compareS a b = v) := by unfold Hid; rw [HCS.out, firstNZ_at l t hz.out (by rw [← HV.out]; exact h0)]; exact HV.out.symm
        go_wp2
        go_ret
        rw [HR.out]
        exact ⟨rfl, HDA.out⟩
    · have hge : (8 : Int) ≤ (t : Int) := by omega
      obtain rfl : t = 8 := by omega
      have HR : Hid (compareS a b = 0) := by unfold Hid; rw [HCS.out]; exact firstNZ_none l (fun j hj => hz.out j (by rw [HLL.out] at hj; exact hj))
      go_wp2
      go_ret
      rw [HR.out]
      exact ⟨rfl, HDA.out⟩

end Go.Proofs.Ytjcpjpjccoeakaa

namespace Go.Proofs.Ytjcpjpjccoeakaa
open Go.RowKit
set_option linter.unusedVariables false
theorem ebox_lt {w : World} {g : Nat} {e : EntD} (h : EBox w g e) : g < w.heap.size := (Array.getElem?_eq_some_iff.1 h).1
theorem ebox_ne {w : World} {g : Nat} {e : EntD} (h : EBox w g e) : g ≠ w.heap.size := by have := ebox_lt h; omega
theorem ne_of_lt_le {a b c : Nat} (h : a < b) (k : b ≤ c) : a ≠ c := by omega
theorem LaidE.fillE {w : World} {B g : Nat} {D D0 E : EntD} (h : LaidE w B D) (hg : EBox w g D0) : LaidE (filled w g E) B D := by
  have f : ∀ u bs, Laid w B u bs → Laid (filled w g E) B u bs := by
    rintro u bs ⟨g2, c, h1, h2, h3, h4⟩
    exact ⟨g2, c, h1, h2, h3, h4.apartE hg (filled_apart _ _ _)⟩
  exact ⟨f _ _ h.1, f _ _ h.2.1, f _ _ h.2.2⟩
set_option maxRecDepth 100000 in
theorem wp_alloc_entry {a : Act} {w : World} {K : Act → World → Prop} {Q : Exit → Act → World → Prop} {d : Option Nat} {ps : String} {af : Array Edge} (h : K (a.put d (.pointer (some ⟨w.heap.size, 0, none⟩))) (w.alloc (.cells zeroD.cells 35))) :
    Oper.wp Try.prog { dst := d, op := Op.alloc 35, type := 0, pos := ps, after := af, guard := none } a w K Q := by
  go_simp
  exact h
set_option maxRecDepth 100000 in
theorem wp_store_entry {a : Act} {w : World} {K : Act → World → Prop} {Q : Exit → Act → World → Prop} {ps : String} {af : Array Edge} {p v : Nat} {b B : Nat} {wz : World} {D0 D : EntD} (hb : EBox w b D0) (hl : LaidE wz B D) (hp : a.tmps[p]?.getD undef = .pointer (some ⟨b, 0, none⟩)) (hv : a.tmps[v]?.getD undef = .agg D.cells) (h : K a (filled w b D)) :
    Oper.wp Try.prog { dst := none, op := Op.store 35 (Operand.tmp p) (Operand.tmp v), type := 0, pos := ps, after := af, guard := none } a w K Q := by
  obtain ⟨c0, c1, c2, c3, c4, c5, c6⟩ := hb.cells7
  obtain ⟨f0, f1, f2, f3, f4, f5, f6⟩ := hb.fz7
  obtain ⟨i1, i2, i3, e1⟩ := hl.1.form
  obtain ⟨j1, j2, j3, e2⟩ := hl.2.1.form
  obtain ⟨k1, k2, k3, e3⟩ := hl.2.2.form
  clear hl hb
  obtain ⟨vr, fam, vq, ts, seq, kind, vv, row, qual, val⟩ := D
  simp only at e1 e2 e3
  subst e1 e2 e3
  simp only [EntD.cells] at hv
  simp only [filled] at h
  go_simp
  exact h
set_option maxRecDepth 100000 in
theorem wp_call_entry {a : Act} {w : World} {K : Act → World → Prop} {Q : Exit → Act → World → Prop} {d : Option Nat} {ps : String} {af : Array Edge} {x : Nat} {v : Value} {R : Ending → World → Prop} (hc : Calls Try.prog 19 #[v] w R) (hx : a.tmps[x]?.getD undef = v) (h : ∀ r w', R r w' → ∃ u, r = .returned u ∧ K (a.put d u) w') :
    Oper.wp Try.prog { dst := d, op := Op.call { callee := Callee.value (Operand.func 19), args := #[Operand.tmp x], argTypes := #[35] }, type := 35, pos := ps, after := af, guard := none } a w K Q := by
  go_simp
  refine hc.mono ?_
  intro r w' hr
  obtain ⟨u, rfl, hk⟩ := h r w' hr
  exact hk
set_option maxRecDepth 100000 in
theorem load_entry {a : Act} {w : World} {p : Nat} {g : Nat} {e : EntD} {d : Option Nat} {ps : String} {af : Array Edge} (h : EBox w g e) (hp : a.tmps[p]?.getD undef = .pointer (some ⟨g, 0, none⟩)) :
    (execOp a.eval { dst := d, op := Op.load 35 (Operand.tmp p), type := 35, pos := ps, after := af, guard := none }).run Try.prog w = .ok (.value (.agg e.cells)) w := by
  obtain ⟨c0, c1, c2, c3, c4, c5, c6⟩ := h.cells7
  simp only [EntD.cells]
  go_simp
end Go.Proofs.Ytjcpjpjccoeakaa
