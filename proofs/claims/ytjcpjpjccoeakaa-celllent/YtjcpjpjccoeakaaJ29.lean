import Derived.Test.YtjcpjpjccoeakaaCell37
import Derived.Lib.Hide
namespace Go.Proofs.Ytjcpjpjccoeakaa
open Go.RowKit
set_option linter.unusedVariables false

/-- Nothing but zero values. -/
def ZeroD (D : EntD) : Prop := D.fam = 0 ∧ D.ts = 0 ∧ D.seq = 0 ∧ D.kind = 0 ∧ D.row = [] ∧ D.qual = [] ∧ D.val = []
theorem zero_data : ZeroD zeroD := ⟨rfl, rfl, rfl, rfl, rfl, rfl, rfl⟩
/-- What the bytes say: an entry, a place, an error. -/
def UDet (K V : List Nat) (E1 P2 E2 : Nat) (D : EntD) (P E : Nat) : Prop :=
  (E1 = 0 ∧ E2 = 0 ∧ checkS D = 0 ∧ D.val = V ∧ keyL D = K ∧ P = P2 ∧ E = 0) ∨
  (ZeroD D ∧ P = 0 ∧ ((E1 ≠ 0 ∧ E = E1) ∨ (E1 = 0 ∧ ¬ IsKey K ∧ E = 29) ∨ (E1 = 0 ∧ IsKey K ∧ E2 ≠ 0 ∧ E = E2) ∨ (E1 = 0 ∧ IsKey K ∧ E2 = 0 ∧ (¬ ∃ D : EntD, checkS D = 0 ∧ D.val = V ∧ keyL D = K) ∧ E = 29)))
theorem isKey_of {D : EntD} (h : checkS D = 0) : IsKey (keyL D) := ⟨⟨.slice none 0 0, D.fam, .slice none 0 0, D.ts, D.seq, D.kind, .slice none 0 0, D.row, D.qual, []⟩, check_drop h _ _ _, rfl, keyL_val D _ _ _ _⟩
theorem ZeroD.same {a b : EntD} (h : ZeroD a) (k : ZeroD b) : EntD.Same a b := by
  obtain ⟨h1, h2, h3, h4, h5, h6, h7⟩ := h
  obtain ⟨k1, k2, k3, k4, k5, k6, k7⟩ := k
  exact ⟨h1.trans k1.symm, h2.trans k2.symm, h3.trans k3.symm, h4.trans k4.symm, h5.trans k5.symm, h6.trans k6.symm, h7.trans k7.symm⟩
theorem UDet.same {K V : List Nat} {E1 P2 E2 : Nat} {D D' : EntD} {P P' E E' : Nat} (h : UDet K V E1 P2 E2 D P E) (k : UDet K V E1 P2 E2 D' P' E') : P = P' ∧ E = E' ∧ EntD.Same D D' := by
  rcases h with ⟨a1, a2, a3, a4, a5, a6, a7⟩ | ⟨a1, a2, a3⟩ <;> rcases k with ⟨b1, b2, b3, b4, b5, b6, b7⟩ | ⟨b1, b2, b3⟩
  · obtain ⟨x1, x2, x3, x4, x5, x6⟩ := key_same a3 b3 (a5.trans b5.symm)
    exact ⟨a6.trans b6.symm, a7.trans b7.symm, x1, x2, x3, x4, x5, x6, a4.trans b4.symm⟩
  · exfalso
    have ik : IsKey K := a5 ▸ isKey_of a3
    rcases b3 with ⟨c, _⟩ | ⟨_, c, _⟩ | ⟨_, _, c, _⟩ | ⟨_, _, _, c, _⟩
    · exact c a1
    · exact c ik
    · exact c a2
    · exact c ⟨D, a3, a4, a5⟩
  · exfalso
    have ik : IsKey K := b5 ▸ isKey_of b3
    rcases a3 with ⟨c, _⟩ | ⟨_, c, _⟩ | ⟨_, _, c, _⟩ | ⟨_, _, _, c, _⟩
    · exact c b1
    · exact c ik
    · exact c b2
    · exact c ⟨D', b3, b4, b5⟩
  · refine ⟨a2.trans b2.symm, ?_, a1.same b1⟩
    rcases a3 with ⟨c, e⟩ | ⟨c1, c, e⟩ | ⟨c1, c2, c, e⟩ | ⟨c1, c2, c3, c, e⟩ <;> rcases b3 with ⟨d, f⟩ | ⟨d1, d, f⟩ | ⟨d1, d2, d, f⟩ | ⟨d1, d2, d3, d, f⟩ <;> first | omega | contradiction
/-- An entry that owns its three byte strings, apart from one another. -/
structure OwnV (w : World) (b : Nat) (D : EntD) : Prop where
  br : Bys D.row ∧ D.row.length ≤ 256
  bq : Bys D.qual ∧ D.qual.length ≤ 256
  bv : Bys D.val ∧ D.val.length ≤ 4096
  row : Own w b D.vr D.row.length D.row
  qual : Own w b D.vq D.qual.length D.qual
  val : Own w b D.vv D.val.length D.val
  arq : ∀ k, D.vr.ownBlock = some k → D.vq.ownBlock ≠ some k
  arv : ∀ k, D.vr.ownBlock = some k → D.vv.ownBlock ≠ some k
  aqv : ∀ k, D.vq.ownBlock = some k → D.vv.ownBlock ≠ some k
theorem OwnV.later {w w' : World} {b : Nat} {D : EntD} (h : OwnV w b D) (hb : Below w.heap.size w w') : OwnV w' b D := ⟨h.br, h.bq, h.bv, h.row.later hb, h.qual.later hb, h.val.later hb, h.arq, h.arv, h.aqv⟩
theorem OwnV.ok {w : World} {b : Nat} {D : EntD} (h : OwnV w b D) : EntD.Ok w D :=
  ⟨h.row.rd h.br.1 (by have := h.br.2; omega), h.qual.rd h.bq.1 (by have := h.bq.2; omega), h.val.rd h.bv.1 (by have := h.bv.2; omega)⟩
theorem OwnV.zero (w : World) (b : Nat) : OwnV w b zeroD := ⟨⟨fun x hx => by simp [zeroD] at hx, by simp [zeroD]⟩, ⟨fun x hx => by simp [zeroD] at hx, by simp [zeroD]⟩, ⟨fun x hx => by simp [zeroD] at hx, by simp [zeroD]⟩, own_nil _ _, own_nil _ _, own_nil _ _, (fun k hk => by cases hk), (fun k hk => by cases hk), (fun k hk => by cases hk)⟩
theorem OwnV.far {w w' : World} {b : Nat} {D : EntD} {o : Option Nat} (h : OwnV w b D) (k : w.grownBy w' o) (hne : ∀ g, o = some g → g < b) : OwnV w' b D :=
  ⟨h.br, h.bq, h.bv, h.row.far k (fun g hg e => by have := hne g hg; have := (h.row.2.lt g e).1; omega), h.qual.far k (fun g hg e => by have := hne g hg; have := (h.qual.2.lt g e).1; omega), h.val.far k (fun g hg e => by have := hne g hg; have := (h.val.2.lt g e).1; omega), h.arq, h.arv, h.aqv⟩
theorem OwnV.fill {w : World} {b g : Nat} {D E : EntD} (h : OwnV w b D) (hg : g < b) : OwnV (filled w g E) b D := ⟨h.br, h.bq, h.bv, h.row.fillo hg, h.qual.fillo hg, h.val.fillo hg, h.arq, h.arv, h.aqv⟩

theorem unpack_own {w : World} {m c : Nat} {a : Option Addr} {bs K V : List Nat} {k P1 E1 P2 E2 : Nat} (hr : Rd w (.slice a m c) bs) (hk : k ≤ bs.length) (h47 : bs.length ≤ 140737488355328) (q1 : bytesR bs k 1048 = (K, P1, E1)) (q2 : bytesR bs P1 4096 = (V, P2, E2)) :
    Calls Try.prog 28 #[.slice a m c, .int .i64 (k : Int)] w fun r w' => ∃ D P E, r = .returned (.tuple #[.agg D.cells, .int .i64 ((P : Nat) : Int), .int .i64 ((E : Nat) : Int)]) ∧ UDet K V E1 P2 E2 D P E ∧ OwnV w' w.heap.size D ∧ Below w.heap.size w w' := by
  have o2 := bytesR_ok bs P1 4096 hr.1
  rw [q2] at o2
  refine (unpack_exact hr hk h47 q1 q2).mono ?_
  rintro r w' ⟨hb, ⟨D, e1, e2, h1, h2, h3, h4, h5, h6, y1, Ba, Bb, b1, b2, y2, y3, x1, x2, x3⟩ | ⟨E, h1, h2⟩⟩
  · have f := check_facts h1
    subst h2
    refine ⟨D, P2, 0, h6, .inl ⟨e1, e2, h1, rfl, h3, rfl, rfl⟩, ⟨⟨h4, f.1.2⟩, ⟨h5, f.2.2.1⟩, ⟨o2.1, f.2.2.2.2.2.2.2.1⟩, y1, y2.mono b1, y3.mono b2, fun k hk he => ?_, fun k hk he => ?_, fun k hk he => ?_⟩, hb⟩
    · have := x1 k hk
      have := (y2.2.lt k he).1
      omega
    · have := x3 k hk
      have := (y3.2.lt k he).1
      omega
    · have := x2 k hk
      have := (y3.2.lt k he).1
      omega
  · exact ⟨zeroD, 0, E, h1, .inr ⟨zero_data, rfl, h2⟩, OwnV.zero _ _, hb⟩

theorem refRB_at {v : Value} {bs : List Nat} {w : World} (hr : Rd w v bs) (k most : Nat) (hk : k ≤ bs.length) (hmost : most < 9223372036854775808) (h47 : bs.length ≤ 140737488355328) {L : List Nat} {P E : Nat} (q : bytesR bs k most = (L, P, E)) :
    Calls Try.prog 72 #[v, .int .i64 (k : Int), .int .i64 (most : Int)] w fun e w' => ∃ a m c, e = .returned (.tuple #[.slice a m c, .int .i64 (P : Int), .int .i64 (E : Int)]) ∧ Own w' w.heap.size (.slice a m c) m L ∧ Below w.heap.size w w' := by
  have h := refReadBytes_in hr k most hk hmost h47
  rw [q] at h
  exact h

set_option maxRecDepth 100000 in
set_option maxHeartbeats 16000000 in
theorem refUnpack_own {w : World} {m c : Nat} {a : Option Addr} {bs K V : List Nat} {k P1 E1 P2 E2 : Nat} (hr : Rd w (.slice a m c) bs) (hk : k ≤ bs.length) (h47 : bs.length ≤ 140737488355328) (q1 : bytesR bs k 1048 = (K, P1, E1)) (q2 : bytesR bs P1 4096 = (V, P2, E2)) :
    Calls Try.prog 44 #[.slice a m c, .int .i64 (k : Int)] w fun r w' => ∃ D P E, r = .returned (.tuple #[.agg D.cells, .int .i64 ((P : Nat) : Int), .int .i64 ((E : Nat) : Int)]) ∧ UDet K V E1 P2 E2 D P E ∧ OwnV w' w.heap.size D ∧ Below w.heap.size w w' := by
  obtain ⟨o1, o2⟩ : (Bys K ∧ K.length ≤ 1048 ∧ P1 ≤ bs.length) ∧ (Bys V ∧ V.length ≤ 4096 ∧ P2 ≤ bs.length) := by
    have o1 := bytesR_ok bs k 1048 hr.1
    rw [q1] at o1
    have o2 := bytesR_ok bs P1 4096 hr.1
    rw [q2] at o2
    exact ⟨o1, o2⟩
  have hm : m = bs.length := (rd_lens hr).1
  have HO1 := Lib.hid o1
  have HO2 := Lib.hid o2
  have HQ : Hid (bytesR bs k 1048 = (K, P1, E1) ∧ bytesR bs P1 4096 = (V, P2, E2) ∧ k ≤ bs.length ∧ bs.length ≤ 140737488355328) := ⟨q1, q2, hk, h47⟩
  have HR : Hid (Rd w (.slice a m c) bs) := hr
  have i1 : (0 : Int) ≤ (k : Int) := by omega
  have i2 : (k : Int) ≤ (m : Int) := by omega
  have A1 : Below w.heap.size w ((w.alloc (.cells #[.slice none 0 0, .int .i64 0, .slice none 0 0, .int .i64 0, .int .i64 0, .int .i64 0, .slice none 0 0] 35)).alloc (.cells #[.slice none 0 0, .int .i64 0, .slice none 0 0, .int .i64 0, .int .i64 0, .int .i64 0, .slice none 0 0] 35)) := ((Below.refl w.heap.size w).alloc (Nat.le_refl _) _).alloc (by simp) _
  have BG : Hid (EBox ((w.alloc (.cells #[.slice none 0 0, .int .i64 0, .slice none 0 0, .int .i64 0, .int .i64 0, .int .i64 0, .slice none 0 0] 35)).alloc (.cells #[.slice none 0 0, .int .i64 0, .slice none 0 0, .int .i64 0, .int .i64 0, .int .i64 0, .slice none 0 0] 35)) (w.heap.size) ⟨.slice none 0 0, 0, .slice none 0 0, 0, 0, 0, .slice none 0 0, [], [], []⟩) := (EBox.new w ⟨.slice none 0 0, 0, .slice none 0 0, 0, 0, 0, .slice none 0 0, [], [], []⟩).later ((Below.refl _ _).alloc (Nat.le_refl _) _)
  have bn := EBox.new (w.alloc (.cells #[.slice none 0 0, .int .i64 0, .slice none 0 0, .int .i64 0, .int .i64 0, .int .i64 0, .slice none 0 0] 35)) ⟨.slice none 0 0, 0, .slice none 0 0, 0, 0, 0, .slice none 0 0, [], [], []⟩
  rw [World.size_alloc] at bn
  have BN : Hid (EBox ((w.alloc (.cells #[.slice none 0 0, .int .i64 0, .slice none 0 0, .int .i64 0, .int .i64 0, .int .i64 0, .slice none 0 0] 35)).alloc (.cells #[.slice none 0 0, .int .i64 0, .slice none 0 0, .int .i64 0, .int .i64 0, .int .i64 0, .slice none 0 0] 35)) (w.heap.size + 1) ⟨.slice none 0 0, 0, .slice none 0 0, 0, 0, 0, .slice none 0 0, [], [], []⟩) := bn
  clear o1 o2 q1 q2 hk h47 hr hm bn
  go_enter Try.func44, Try.ntmps44
  go_wp2_with fail
  refine (refRB_at (HR.out.later A1) k 1048 HQ.out.2.2.1 (by decide) HQ.out.2.2.2 HQ.out.1).mono ?_
  rintro e1 w1 ⟨ak, mk, ck, rfl, own1, hb1⟩
  have B1 := A1.trans (hb1.mono A1.size)
  have hs1 : w.heap.size + 1 + 1 ≤ w1.heap.size := by have := hb1.size; simpa using this
  have BG' := Lib.hid (BG.out.later hb1)
  have BN' := Lib.hid (BN.out.later hb1)
  clear BG BN
  have BG := BG'
  have BN := BN'
  clear BG' BN'
  clear hb1 A1
  by_cases hE1 : E1 = 0
  case neg =>
    have h0 : ((E1 : Int) != 0) = true := by simp; omega
    have h1 : ¬ ((E1 : Int) = 0) := by omega
    have fa := filled_apart (w1) (w.heap.size) ⟨.slice none 0 0, 0, .slice none 0 0, 0, 0, 0, .slice none 0 0, [], [], []⟩
    have fb := filled_box BG.out ⟨.slice none 0 0, 0, .slice none 0 0, 0, 0, 0, .slice none 0 0, [], [], []⟩
    have bw := B1.trans (fa.below (Nat.le_refl _) B1.size)
    obtain ⟨g0, g1, g2, g3, g4, g5, g6⟩ := BG.out.cells7
    obtain ⟨gf0, gf1, gf2, gf3, gf4, gf5, gf6⟩ := BG.out.fz7
    obtain ⟨m0, m1, m2, m3, m4, m5, m6⟩ := BN.out.cells7
    simp only at g0 g1 g2 g3 g4 g5 g6 m0 m1 m2 m3 m4 m5 m6
    have HDN : Hid (_ ∧ _) := ⟨fb, bw⟩
    clear fa fb bw
    simp only [filled] at HDN
    go_wp2
    obtain ⟨fb, bw⟩ := HDN.out
    clear HDN
    generalize ((((((((w1).setCell ⟨w.heap.size, 0, none⟩ (.slice none 0 0)).setCell ⟨w.heap.size, 1, none⟩ (.int .i64 0)).setCell ⟨w.heap.size, 2, none⟩ (.slice none 0 0)).setCell ⟨w.heap.size, 3, none⟩ (.int .i64 0)).setCell ⟨w.heap.size, 4, none⟩ (.int .i64 0)).setCell ⟨w.heap.size, 5, none⟩ (.int .i64 0)).setCell ⟨w.heap.size, 6, none⟩ (.slice none 0 0)) = wz at fb bw ⊢
    obtain ⟨t0, t1, t2, t3, t4, t5, t6⟩ := fb.cells7
    simp only at t0 t1 t2 t3 t4 t5 t6
    (try simp only [Exit.inBlock, Exit.then])
    refine bodyPost_ret (v := .tuple #[.agg #[.slice none 0 0, .int .i64 0, .slice none 0 0, .int .i64 0, .int .i64 0, .int .i64 0, .slice none 0 0], .int .i64 0, .int .i64 ((E1 : Nat) : Int)]) ?hres rfl ?_
    case hres => simp [results, Try.results44, go_sem, t0, t1, t2, t3, t4, t5, t6]
    exact ⟨zeroD, 0, E1, rfl, .inr ⟨zero_data, rfl, .inl ⟨hE1, rfl⟩⟩, OwnV.zero _ _, bw⟩
  subst hE1
  have r1 := own1.rd HO1.out.1 (by rw [own1.1]; have := HO1.out.2.1; omega)
  clear own1
  go_wp2_with fail
  refine (refParse_own r1 (by have := HO1.out.2.1; omega)).mono ?_
  rintro e2 w2 ⟨X, EX, rfl, dx, ox, hb2⟩
  have IK : Hid ((EX = 0 ∧ IsKey K ∧ checkS X = 0 ∧ keyL X = K ∧ X.val = []) ∨ (EX = 27 ∧ ¬ IsKey K)) := by
    rcases dx with ⟨d1, d2, d3, d4⟩ | ⟨d1, d2, _⟩
    · exact .inl ⟨d1, ⟨X, d2, d4, d3⟩, d2, d3, d4⟩
    · exact .inr ⟨d2, d1⟩
  obtain ⟨ar, cr, er⟩ := own_form ox.row.2
  obtain ⟨aq, cq, eq⟩ := own_form ox.qual.2
  have ev := ox.vv.1
  obtain ⟨vr, fam, vq, ts, sq, kd, vv, row, qual, val⟩ := X
  simp only at er eq ev
  subst er eq ev
  have A2 := (Below.refl w2.heap.size w2).alloc (Nat.le_refl _) (.cells (EntD.cells ⟨.slice ar row.length cr, fam, .slice aq qual.length cq, ts, sq, kd, .slice none 0 0, row, qual, val⟩) 35)
  have hb2' := hb2.trans (A2.mono hb2.size)
  have B2 := B1.trans (hb2'.mono B1.size)
  have BE := Lib.hid (EBox.new w2 ⟨.slice ar row.length cr, fam, .slice aq qual.length cq, ts, sq, kd, .slice none 0 0, row, qual, val⟩)
  have OX := Lib.hid (And.intro (ox.later A2) (show w.heap.size + 1 + 1 ≤ w2.heap.size from Nat.le_trans hs1 hb2.size))
  have OXLT : Hid ((∀ k, (Value.slice ar row.length cr).ownBlock = some k → k < w2.heap.size) ∧ (∀ k, (Value.slice aq qual.length cq).ownBlock = some k → k < w2.heap.size)) := ⟨fun k hk => (ox.row.2.lt k hk).2, fun k hk => (ox.qual.2.lt k hk).2⟩
  have BG' := Lib.hid (BG.out.later hb2')
  have BN' := Lib.hid (BN.out.later hb2')
  clear BG BN
  have BG := BG'
  have BN := BN'
  clear BG' BN'
  clear dx ox hb2 hb2' A2 B1 r1
  simp only [EntD.cells] at B2 BE OX BG BN ⊢
  rcases IK.out with ⟨rfl, hik, hck, hkl, hvl⟩ | ⟨rfl, hno⟩
  case inr =>
    have fa := filled_apart (w2.alloc (.cells #[.slice ar row.length cr, .int .i64 fam, .slice aq qual.length cq, .int .i64 ts, .int .i64 sq, .int .i64 kd, .slice none 0 0] 35)) (w.heap.size) ⟨.slice none 0 0, 0, .slice none 0 0, 0, 0, 0, .slice none 0 0, [], [], []⟩
    have fb := filled_box BG.out ⟨.slice none 0 0, 0, .slice none 0 0, 0, 0, 0, .slice none 0 0, [], [], []⟩
    have bw := B2.trans (fa.below (Nat.le_refl _) B2.size)
    obtain ⟨g0, g1, g2, g3, g4, g5, g6⟩ := BG.out.cells7
    obtain ⟨gf0, gf1, gf2, gf3, gf4, gf5, gf6⟩ := BG.out.fz7
    obtain ⟨m0, m1, m2, m3, m4, m5, m6⟩ := BN.out.cells7
    simp only at g0 g1 g2 g3 g4 g5 g6 m0 m1 m2 m3 m4 m5 m6
    have HDN : Hid (_ ∧ _) := ⟨fb, bw⟩
    clear fa fb bw
    simp only [filled] at HDN
    go_wp2
    obtain ⟨fb, bw⟩ := HDN.out
    clear HDN
    generalize ((((((((w2.alloc (.cells #[.slice ar row.length cr, .int .i64 fam, .slice aq qual.length cq, .int .i64 ts, .int .i64 sq, .int .i64 kd, .slice none 0 0] 35)).setCell ⟨w.heap.size, 0, none⟩ (.slice none 0 0)).setCell ⟨w.heap.size, 1, none⟩ (.int .i64 0)).setCell ⟨w.heap.size, 2, none⟩ (.slice none 0 0)).setCell ⟨w.heap.size, 3, none⟩ (.int .i64 0)).setCell ⟨w.heap.size, 4, none⟩ (.int .i64 0)).setCell ⟨w.heap.size, 5, none⟩ (.int .i64 0)).setCell ⟨w.heap.size, 6, none⟩ (.slice none 0 0)) = wz at fb bw ⊢
    obtain ⟨t0, t1, t2, t3, t4, t5, t6⟩ := fb.cells7
    simp only at t0 t1 t2 t3 t4 t5 t6
    (try simp only [Exit.inBlock, Exit.then])
    refine bodyPost_ret (v := .tuple #[.agg #[.slice none 0 0, .int .i64 0, .slice none 0 0, .int .i64 0, .int .i64 0, .int .i64 0, .slice none 0 0], .int .i64 0, .int .i64 29]) ?hres rfl ?_
    case hres => simp [results, Try.results44, go_sem, t0, t1, t2, t3, t4, t5, t6]
    exact ⟨zeroD, 0, 29, rfl, .inr ⟨zero_data, rfl, .inr (.inl ⟨rfl, hno, rfl⟩)⟩, OwnV.zero _ _, bw⟩
  simp only at hvl
  subst hvl
  have HIK := Lib.hid hik
  have HCK := Lib.hid hck
  have HKL := Lib.hid hkl
  clear IK hik hck hkl
  go_wp2_with fail
  refine (refRB_at (HR.out.later B2) P1 4096 HO1.out.2.2 (by decide) HQ.out.2.2.2 HQ.out.2.1).mono ?_
  rintro e3 w3 ⟨av, mv, cv, rfl, own3, hb3⟩
  have B3 := B2.trans (hb3.mono B2.size)
  have BE3 := BE.out.later hb3
  have hs3 : w2.heap.size + 1 ≤ w3.heap.size := by have := hb3.size; simpa using this
  have OX3 := Lib.hid (And.intro (OX.out.1.later hb3) OX.out.2)
  have OV3 : Hid (Own w3 (w2.heap.size + 1) (.slice av mv cv) mv V) := by have := own3; simp at this; exact this
  have hmv : mv = V.length := own3.1
  have hV := HO2.out.2.1
  have BG' := Lib.hid (BG.out.later hb3)
  have BN' := Lib.hid (BN.out.later hb3)
  clear BG BN
  have BG := BG'
  have BN := BN'
  clear BG' BN'
  clear own3 hb3 B2 BE OX
  by_cases hE2 : E2 = 0
  case neg =>
    have h0 : ((E2 : Int) != 0) = true := by simp; omega
    have h1 : ¬ ((E2 : Int) = 0) := by omega
    have fa := filled_apart (w3) (w.heap.size) ⟨.slice none 0 0, 0, .slice none 0 0, 0, 0, 0, .slice none 0 0, [], [], []⟩
    have fb := filled_box BG.out ⟨.slice none 0 0, 0, .slice none 0 0, 0, 0, 0, .slice none 0 0, [], [], []⟩
    have bw := B3.trans (fa.below (Nat.le_refl _) B3.size)
    obtain ⟨g0, g1, g2, g3, g4, g5, g6⟩ := BG.out.cells7
    obtain ⟨gf0, gf1, gf2, gf3, gf4, gf5, gf6⟩ := BG.out.fz7
    obtain ⟨m0, m1, m2, m3, m4, m5, m6⟩ := BN.out.cells7
    simp only at g0 g1 g2 g3 g4 g5 g6 m0 m1 m2 m3 m4 m5 m6
    have HDN : Hid (_ ∧ _) := ⟨fb, bw⟩
    clear fa fb bw
    simp only [filled] at HDN
    go_wp2
    obtain ⟨fb, bw⟩ := HDN.out
    clear HDN
    generalize ((((((((w3).setCell ⟨w.heap.size, 0, none⟩ (.slice none 0 0)).setCell ⟨w.heap.size, 1, none⟩ (.int .i64 0)).setCell ⟨w.heap.size, 2, none⟩ (.slice none 0 0)).setCell ⟨w.heap.size, 3, none⟩ (.int .i64 0)).setCell ⟨w.heap.size, 4, none⟩ (.int .i64 0)).setCell ⟨w.heap.size, 5, none⟩ (.int .i64 0)).setCell ⟨w.heap.size, 6, none⟩ (.slice none 0 0)) = wz at fb bw ⊢
    obtain ⟨t0, t1, t2, t3, t4, t5, t6⟩ := fb.cells7
    simp only at t0 t1 t2 t3 t4 t5 t6
    (try simp only [Exit.inBlock, Exit.then])
    refine bodyPost_ret (v := .tuple #[.agg #[.slice none 0 0, .int .i64 0, .slice none 0 0, .int .i64 0, .int .i64 0, .int .i64 0, .slice none 0 0], .int .i64 0, .int .i64 ((E2 : Nat) : Int)]) ?hres rfl ?_
    case hres => simp [results, Try.results44, go_sem, t0, t1, t2, t3, t4, t5, t6]
    exact ⟨zeroD, 0, E2, rfl, .inr ⟨zero_data, rfl, .inr (.inr (.inl ⟨rfl, HIK.out, hE2, rfl⟩))⟩, OwnV.zero _ _, bw⟩
  subst hE2
  obtain ⟨y0, y1, y2, y3, y4, y5, y6⟩ := BE3.cells7
  simp only at y0 y1 y2 y3 y4 y5 y6
  have BE3 := Lib.hid BE3
  have n1 : ¬ (w2.heap.size = w.heap.size) := by have := OX3.out.2; omega
  have n2 : ¬ (w.heap.size = w2.heap.size) := by have := OX3.out.2; omega
  have n3 : ¬ (w2.heap.size = w.heap.size + 1) := by have := OX3.out.2; omega
  have n4 : ¬ (w.heap.size + 1 = w2.heap.size) := by have := OX3.out.2; omega
  by_cases hgo : V = [] ∨ kd = 1
  case neg =>
    have hp : 0 < V.length := by
      rcases Nat.eq_zero_or_pos V.length with h | h
      · exact absurd (.inl (List.eq_nil_of_length_eq_zero h)) hgo
      · exact h
    have hk1 : ¬ (kd = 1) := fun h => hgo (.inr h)
    have hk2 : (kd != 1) = true := by simpa using hk1
    have HNO : Hid (¬ ∃ D : EntD, checkS D = 0 ∧ D.val = V ∧ keyL D = K) := by
      rintro ⟨D, h1, h2, h3⟩
      have e := kind_of_key h1 HCK.out (h3.trans HKL.out.symm)
      simp only at e
      have := (check_facts h1).2.2.2.2.2.2.2.2 (by rw [e]; exact hk1)
      rw [← h2, this] at hp
      simp at hp
    have d0 : (0 : Int) < (mv : Int) := by omega
    have dd : decide ((0 : Int) < (mv : Int)) = true := decide_eq_true d0
    clear hgo
    have fa := filled_apart (w3) (w.heap.size) ⟨.slice none 0 0, 0, .slice none 0 0, 0, 0, 0, .slice none 0 0, [], [], []⟩
    have fb := filled_box BG.out ⟨.slice none 0 0, 0, .slice none 0 0, 0, 0, 0, .slice none 0 0, [], [], []⟩
    have bw := B3.trans (fa.below (Nat.le_refl _) B3.size)
    obtain ⟨g0, g1, g2, g3, g4, g5, g6⟩ := BG.out.cells7
    obtain ⟨gf0, gf1, gf2, gf3, gf4, gf5, gf6⟩ := BG.out.fz7
    obtain ⟨m0, m1, m2, m3, m4, m5, m6⟩ := BN.out.cells7
    simp only at g0 g1 g2 g3 g4 g5 g6 m0 m1 m2 m3 m4 m5 m6
    have HDN : Hid (_ ∧ _) := ⟨fb, bw⟩
    clear fa fb bw
    simp only [filled] at HDN
    go_wp2
    obtain ⟨fb, bw⟩ := HDN.out
    clear HDN
    generalize ((((((((w3).setCell ⟨w.heap.size, 0, none⟩ (.slice none 0 0)).setCell ⟨w.heap.size, 1, none⟩ (.int .i64 0)).setCell ⟨w.heap.size, 2, none⟩ (.slice none 0 0)).setCell ⟨w.heap.size, 3, none⟩ (.int .i64 0)).setCell ⟨w.heap.size, 4, none⟩ (.int .i64 0)).setCell ⟨w.heap.size, 5, none⟩ (.int .i64 0)).setCell ⟨w.heap.size, 6, none⟩ (.slice none 0 0)) = wz at fb bw ⊢
    obtain ⟨t0, t1, t2, t3, t4, t5, t6⟩ := fb.cells7
    simp only at t0 t1 t2 t3 t4 t5 t6
    (try simp only [Exit.inBlock, Exit.then])
    refine bodyPost_ret (v := .tuple #[.agg #[.slice none 0 0, .int .i64 0, .slice none 0 0, .int .i64 0, .int .i64 0, .int .i64 0, .slice none 0 0], .int .i64 0, .int .i64 29]) ?hres rfl ?_
    case hres => simp [results, Try.results44, go_sem, t0, t1, t2, t3, t4, t5, t6]
    exact ⟨zeroD, 0, 29, rfl, .inr ⟨zero_data, rfl, .inr (.inr (.inr ⟨rfl, HIK.out, rfl, HNO.out, rfl⟩))⟩, OwnV.zero _ _, bw⟩
  have HGO := Lib.hid hgo
  have hw2 : w.heap.size ≤ w2.heap.size := by have := OX3.out.2; omega
  have be4 := BE3.out.set6 (.slice av mv cv) V
  have BW4 := B3.setCell (p := ⟨w2.heap.size, 6, none⟩) (show w.heap.size ≤ w2.heap.size by have := OX3.out.2; omega) (.slice av mv cv)
  have f6 := BE3.out.fz 6
  have HMV := Lib.hid hmv
  have BGF := BG.out.apart (apart_set w3 w2.heap.size 6 (.slice av mv cv)) n2
  have OXR := ((OX3.out.1.row.apartE BE3.out (apart_set w3 w2.heap.size 6 (.slice av mv cv))).apartE BGF (filled_apart _ (w.heap.size) ⟨.slice ar row.length cr, fam, .slice aq qual.length cq, ts, sq, kd, .slice av mv cv, row, qual, V⟩))
  have OXQ := ((OX3.out.1.qual.apartE BE3.out (apart_set w3 w2.heap.size 6 (.slice av mv cv))).apartE BGF (filled_apart _ (w.heap.size) ⟨.slice ar row.length cr, fam, .slice aq qual.length cq, ts, sq, kd, .slice av mv cv, row, qual, V⟩))
  have OXV := ((own_len OV3.out).apartE BE3.out (apart_set w3 w2.heap.size 6 (.slice av mv cv))).apartE BGF (filled_apart _ (w.heap.size) ⟨.slice ar row.length cr, fam, .slice aq qual.length cq, ts, sq, kd, .slice av mv cv, row, qual, V⟩)
  have APP : Hid ((∀ k, (Value.slice ar row.length cr).ownBlock = some k → (Value.slice aq qual.length cq).ownBlock ≠ some k) ∧ (∀ k, (Value.slice ar row.length cr).ownBlock = some k → (Value.slice av mv cv).ownBlock ≠ some k) ∧ (∀ k, (Value.slice aq qual.length cq).ownBlock = some k → (Value.slice av mv cv).ownBlock ≠ some k)) := ⟨OX3.out.1.apart, fun k hk he => by have h1 := OXLT.out.1 k hk; have h2 := (OV3.out.2.lt k he).1; omega, fun k hk he => by have h1 := OXLT.out.2 k hk; have h2 := (OV3.out.2.lt k he).1; omega⟩
  have FINE : Hid ((Bys row ∧ row.length ≤ 256) ∧ (Bys qual ∧ qual.length ≤ 256)) := ⟨OX3.out.1.br, OX3.out.1.bq⟩
  have HCP : Hid (checkS ⟨.slice ar row.length cr, fam, .slice aq qual.length cq, ts, sq, kd, .slice av mv cv, row, qual, V⟩ = 0 ∧ keyL ⟨.slice ar row.length cr, fam, .slice aq qual.length cq, ts, sq, kd, .slice av mv cv, row, qual, V⟩ = K) := ⟨check_put HCK.out HO2.out.2.1 HGO.out _ _ _, HKL.out⟩
  have HOW := Lib.hid (And.intro OXR (And.intro OXQ OXV))
  have BE4 := Lib.hid be4
  have BGX := Lib.hid BGF
  clear OXR OXQ OXV OX3 OV3 BGF be4 hgo HIK HCK HKL f6
  simp only [filled] at HOW
  have W : (0 < V.length ∧ kd = 1) ∨ V.length = 0 := by
    rcases HGO.out with rfl | h
    · exact .inr rfl
    · rcases Nat.eq_zero_or_pos V.length with h0 | h0
      · exact .inr h0
      · exact .inl ⟨h0, h⟩
  rcases W with ⟨hp, rfl⟩ | hz
  · have d0 : (0 : Int) < (mv : Int) := by omega
    have dd : decide ((0 : Int) < (mv : Int)) = true := decide_eq_true d0
    clear hmv hV hp
    have fa := filled_apart (w3.setCell ⟨w2.heap.size, 6, none⟩ (.slice av mv cv)) (w.heap.size) ⟨.slice ar row.length cr, fam, .slice aq qual.length cq, ts, sq, 1, .slice av mv cv, row, qual, V⟩
    have fb := filled_box BGX.out ⟨.slice ar row.length cr, fam, .slice aq qual.length cq, ts, sq, 1, .slice av mv cv, row, qual, V⟩
    have bw := BW4.trans (fa.below (Nat.le_refl _) BW4.size)
    obtain ⟨g0, g1, g2, g3, g4, g5, g6⟩ := BG.out.cells7
    obtain ⟨gf0, gf1, gf2, gf3, gf4, gf5, gf6⟩ := BG.out.fz7
    obtain ⟨yf0, yf1, yf2, yf3, yf4, yf5, yf6⟩ := BE3.out.fz7
    simp only at g0 g1 g2 g3 g4 g5 g6
    clear BGX BE4 BG BN BE3
    have HDN : Hid (_ ∧ _) := ⟨fb, bw⟩
    clear fa fb bw
    simp only [filled] at HDN
    go_wp2
    obtain ⟨fb, bw⟩ := HDN.out
    clear HDN
    have foo := HOW.out
    clear HOW
    generalize ((((((((w3.setCell ⟨w2.heap.size, 6, none⟩ (.slice av mv cv)).setCell ⟨w.heap.size, 0, none⟩ (.slice ar row.length cr)).setCell ⟨w.heap.size, 1, none⟩ (.int .i64 fam)).setCell ⟨w.heap.size, 2, none⟩ (.slice aq qual.length cq)).setCell ⟨w.heap.size, 3, none⟩ (.int .i64 ts)).setCell ⟨w.heap.size, 4, none⟩ (.int .i64 sq)).setCell ⟨w.heap.size, 5, none⟩ (.int .i64 1)).setCell ⟨w.heap.size, 6, none⟩ (.slice av mv cv)) = wz at fb bw foo ⊢
    obtain ⟨t0, t1, t2, t3, t4, t5, t6⟩ := fb.cells7
    simp only at t0 t1 t2 t3 t4 t5 t6
    (try simp only [Exit.inBlock, Exit.then])
    refine bodyPost_ret (v := .tuple #[.agg #[.slice ar row.length cr, .int .i64 fam, .slice aq qual.length cq, .int .i64 ts, .int .i64 sq, .int .i64 1, .slice av mv cv], .int .i64 (P2 : Int), .int .i64 0]) ?hres rfl ?_
    case hres => simp [results, Try.results44, go_sem, t0, t1, t2, t3, t4, t5, t6]
    refine ⟨⟨.slice ar row.length cr, fam, .slice aq qual.length cq, ts, sq, 1, .slice av mv cv, row, qual, V⟩, P2, 0, rfl, .inl ⟨rfl, rfl, HCP.out.1, rfl, HCP.out.2, rfl, rfl⟩, ⟨FINE.out.1, FINE.out.2, ⟨HO2.out.1, HO2.out.2.1⟩, ?_, ?_, ?_, APP.out.1, APP.out.2.1, APP.out.2.2⟩, bw⟩
    · exact foo.1.mono (by omega)
    · exact foo.2.1.mono (by omega)
    · exact foo.2.2.mono (by omega)
  · obtain rfl : mv = 0 := by omega
    clear hmv hV hz
    by_cases hk1 : kd = 1
    · subst hk1
      have fa := filled_apart (w3.setCell ⟨w2.heap.size, 6, none⟩ (.slice av 0 cv)) (w.heap.size) ⟨.slice ar row.length cr, fam, .slice aq qual.length cq, ts, sq, 1, .slice av 0 cv, row, qual, V⟩
      have fb := filled_box BGX.out ⟨.slice ar row.length cr, fam, .slice aq qual.length cq, ts, sq, 1, .slice av 0 cv, row, qual, V⟩
      have bw := BW4.trans (fa.below (Nat.le_refl _) BW4.size)
      obtain ⟨g0, g1, g2, g3, g4, g5, g6⟩ := BG.out.cells7
      obtain ⟨gf0, gf1, gf2, gf3, gf4, gf5, gf6⟩ := BG.out.fz7
      obtain ⟨yf0, yf1, yf2, yf3, yf4, yf5, yf6⟩ := BE3.out.fz7
      simp only at g0 g1 g2 g3 g4 g5 g6
      clear BGX BE4 BG BN BE3
      have HDN : Hid (_ ∧ _) := ⟨fb, bw⟩
      clear fa fb bw
      simp only [filled] at HDN
      go_wp2
      obtain ⟨fb, bw⟩ := HDN.out
      clear HDN
      have foo := HOW.out
      clear HOW
      generalize ((((((((w3.setCell ⟨w2.heap.size, 6, none⟩ (.slice av 0 cv)).setCell ⟨w.heap.size, 0, none⟩ (.slice ar row.length cr)).setCell ⟨w.heap.size, 1, none⟩ (.int .i64 fam)).setCell ⟨w.heap.size, 2, none⟩ (.slice aq qual.length cq)).setCell ⟨w.heap.size, 3, none⟩ (.int .i64 ts)).setCell ⟨w.heap.size, 4, none⟩ (.int .i64 sq)).setCell ⟨w.heap.size, 5, none⟩ (.int .i64 1)).setCell ⟨w.heap.size, 6, none⟩ (.slice av 0 cv)) = wz at fb bw foo ⊢
      obtain ⟨t0, t1, t2, t3, t4, t5, t6⟩ := fb.cells7
      simp only at t0 t1 t2 t3 t4 t5 t6
      (try simp only [Exit.inBlock, Exit.then])
      refine bodyPost_ret (v := .tuple #[.agg #[.slice ar row.length cr, .int .i64 fam, .slice aq qual.length cq, .int .i64 ts, .int .i64 sq, .int .i64 1, .slice av 0 cv], .int .i64 (P2 : Int), .int .i64 0]) ?hres rfl ?_
      case hres => simp [results, Try.results44, go_sem, t0, t1, t2, t3, t4, t5, t6]
      refine ⟨⟨.slice ar row.length cr, fam, .slice aq qual.length cq, ts, sq, 1, .slice av 0 cv, row, qual, V⟩, P2, 0, rfl, .inl ⟨rfl, rfl, HCP.out.1, rfl, HCP.out.2, rfl, rfl⟩, ⟨FINE.out.1, FINE.out.2, ⟨HO2.out.1, HO2.out.2.1⟩, ?_, ?_, ?_, APP.out.1, APP.out.2.1, APP.out.2.2⟩, bw⟩
      · exact foo.1.mono (by omega)
      · exact foo.2.1.mono (by omega)
      · exact foo.2.2.mono (by omega)
    · have hk2 : (kd != 1) = true := by simpa using hk1
      have hk3 : (kd == 1) = false := by simpa using hk1
      have fa := filled_apart (w3.setCell ⟨w2.heap.size, 6, none⟩ (.slice av 0 cv)) (w.heap.size) ⟨.slice ar row.length cr, fam, .slice aq qual.length cq, ts, sq, kd, .slice av 0 cv, row, qual, V⟩
      have fb := filled_box BGX.out ⟨.slice ar row.length cr, fam, .slice aq qual.length cq, ts, sq, kd, .slice av 0 cv, row, qual, V⟩
      have bw := BW4.trans (fa.below (Nat.le_refl _) BW4.size)
      obtain ⟨g0, g1, g2, g3, g4, g5, g6⟩ := BG.out.cells7
      obtain ⟨gf0, gf1, gf2, gf3, gf4, gf5, gf6⟩ := BG.out.fz7
      obtain ⟨yf0, yf1, yf2, yf3, yf4, yf5, yf6⟩ := BE3.out.fz7
      simp only at g0 g1 g2 g3 g4 g5 g6
      clear BGX BE4 BG BN BE3
      have HDN : Hid (_ ∧ _) := ⟨fb, bw⟩
      clear fa fb bw
      simp only [filled] at HDN
      go_wp2
      obtain ⟨fb, bw⟩ := HDN.out
      clear HDN
      have foo := HOW.out
      clear HOW
      generalize ((((((((w3.setCell ⟨w2.heap.size, 6, none⟩ (.slice av 0 cv)).setCell ⟨w.heap.size, 0, none⟩ (.slice ar row.length cr)).setCell ⟨w.heap.size, 1, none⟩ (.int .i64 fam)).setCell ⟨w.heap.size, 2, none⟩ (.slice aq qual.length cq)).setCell ⟨w.heap.size, 3, none⟩ (.int .i64 ts)).setCell ⟨w.heap.size, 4, none⟩ (.int .i64 sq)).setCell ⟨w.heap.size, 5, none⟩ (.int .i64 kd)).setCell ⟨w.heap.size, 6, none⟩ (.slice av 0 cv)) = wz at fb bw foo ⊢
      obtain ⟨t0, t1, t2, t3, t4, t5, t6⟩ := fb.cells7
      simp only at t0 t1 t2 t3 t4 t5 t6
      (try simp only [Exit.inBlock, Exit.then])
      refine bodyPost_ret (v := .tuple #[.agg #[.slice ar row.length cr, .int .i64 fam, .slice aq qual.length cq, .int .i64 ts, .int .i64 sq, .int .i64 kd, .slice av 0 cv], .int .i64 (P2 : Int), .int .i64 0]) ?hres rfl ?_
      case hres => simp [results, Try.results44, go_sem, t0, t1, t2, t3, t4, t5, t6]
      refine ⟨⟨.slice ar row.length cr, fam, .slice aq qual.length cq, ts, sq, kd, .slice av 0 cv, row, qual, V⟩, P2, 0, rfl, .inl ⟨rfl, rfl, HCP.out.1, rfl, HCP.out.2, rfl, rfl⟩, ⟨FINE.out.1, FINE.out.2, ⟨HO2.out.1, HO2.out.2.1⟩, ?_, ?_, ?_, APP.out.1, APP.out.2.1, APP.out.2.2⟩, bw⟩
      · exact foo.1.mono (by omega)
      · exact foo.2.1.mono (by omega)
      · exact foo.2.2.mono (by omega)

end Go.Proofs.Ytjcpjpjccoeakaa

namespace Go.Proofs.Ytjcpjpjccoeakaa
open Go.RowKit
set_option linter.unusedVariables false

set_option maxRecDepth 100000 in
set_option maxHeartbeats 16000000 in
theorem refUnpack_out {w : World} {m c : Nat} {a : Option Addr} {bs : List Nat} {z : Int} (hr : Rd w (.slice a m c) bs) (h : z < 0 ∨ (bs.length : Int) < z) :
    Calls Try.prog 44 #[.slice a m c, .int .i64 z] w fun r w' => ∃ D P E, r = .returned (.tuple #[.agg D.cells, .int .i64 ((P : Nat) : Int), .int .i64 ((E : Nat) : Int)]) ∧ UDet [] [] 1 0 0 D P E ∧ OwnV w' w.heap.size D ∧ Below w.heap.size w w' := by
  have hm : m = bs.length := (rd_lens hr).1
  have h48 := (rd_lens hr).2.2.2
  have A1 : Below w.heap.size w ((w.alloc (.cells #[.slice none 0 0, .int .i64 0, .slice none 0 0, .int .i64 0, .int .i64 0, .int .i64 0, .slice none 0 0] 35)).alloc (.cells #[.slice none 0 0, .int .i64 0, .slice none 0 0, .int .i64 0, .int .i64 0, .int .i64 0, .slice none 0 0] 35)) := ((Below.refl w.heap.size w).alloc (Nat.le_refl _) _).alloc (by simp) _
  have BG : Hid (EBox ((w.alloc (.cells #[.slice none 0 0, .int .i64 0, .slice none 0 0, .int .i64 0, .int .i64 0, .int .i64 0, .slice none 0 0] 35)).alloc (.cells #[.slice none 0 0, .int .i64 0, .slice none 0 0, .int .i64 0, .int .i64 0, .int .i64 0, .slice none 0 0] 35)) (w.heap.size) ⟨.slice none 0 0, 0, .slice none 0 0, 0, 0, 0, .slice none 0 0, [], [], []⟩) := (EBox.new w ⟨.slice none 0 0, 0, .slice none 0 0, 0, 0, 0, .slice none 0 0, [], [], []⟩).later ((Below.refl _ _).alloc (Nat.le_refl _) _)
  have bn := EBox.new (w.alloc (.cells #[.slice none 0 0, .int .i64 0, .slice none 0 0, .int .i64 0, .int .i64 0, .int .i64 0, .slice none 0 0] 35)) ⟨.slice none 0 0, 0, .slice none 0 0, 0, 0, 0, .slice none 0 0, [], [], []⟩
  rw [World.size_alloc] at bn
  have BN : Hid (EBox ((w.alloc (.cells #[.slice none 0 0, .int .i64 0, .slice none 0 0, .int .i64 0, .int .i64 0, .int .i64 0, .slice none 0 0] 35)).alloc (.cells #[.slice none 0 0, .int .i64 0, .slice none 0 0, .int .i64 0, .int .i64 0, .int .i64 0, .slice none 0 0] 35)) (w.heap.size + 1) ⟨.slice none 0 0, 0, .slice none 0 0, 0, 0, 0, .slice none 0 0, [], [], []⟩) := bn
  rw [← hm] at h
  clear hr hm bn
  by_cases h1 : z < 0
  · have d1 : decide (z < 0) = true := decide_eq_true h1
    clear h
    go_enter Try.func44, Try.ntmps44
    go_wp2
    obtain ⟨g0, g1, g2, g3, g4, g5, g6⟩ := BG.out.cells7
    simp only at g0 g1 g2 g3 g4 g5 g6
    (try simp only [Exit.inBlock, Exit.then])
    refine bodyPost_ret (v := .tuple #[.agg #[.slice none 0 0, .int .i64 0, .slice none 0 0, .int .i64 0, .int .i64 0, .int .i64 0, .slice none 0 0], .int .i64 0, .int .i64 1]) ?hres rfl ?_
    case hres => simp [results, Try.results44, go_sem, g0, g1, g2, g3, g4, g5, g6]
    exact ⟨zeroD, 0, 1, rfl, .inr ⟨zero_data, rfl, .inl ⟨by decide, rfl⟩⟩, OwnV.zero _ _, A1⟩
  · have d1 : decide (z < 0) = false := decide_eq_false h1
    have h2 : (m : Int) < z := by omega
    have h3 : 0 ≤ z := by omega
    have d2 : decide ((m : Int) < z) = true := decide_eq_true h2
    clear h
    go_enter Try.func44, Try.ntmps44
    go_wp2
    obtain ⟨g0, g1, g2, g3, g4, g5, g6⟩ := BG.out.cells7
    simp only at g0 g1 g2 g3 g4 g5 g6
    (try simp only [Exit.inBlock, Exit.then])
    refine bodyPost_ret (v := .tuple #[.agg #[.slice none 0 0, .int .i64 0, .slice none 0 0, .int .i64 0, .int .i64 0, .int .i64 0, .slice none 0 0], .int .i64 0, .int .i64 1]) ?hres rfl ?_
    case hres => simp [results, Try.results44, go_sem, g0, g1, g2, g3, g4, g5, g6]
    exact ⟨zeroD, 0, 1, rfl, .inr ⟨zero_data, rfl, .inl ⟨by decide, rfl⟩⟩, OwnV.zero _ _, A1⟩

set_option maxRecDepth 100000 in
set_option maxHeartbeats 16000000 in
theorem unpack_out {w : World} {m c : Nat} {a : Option Addr} {bs : List Nat} {z : Int} (hr : Rd w (.slice a m c) bs) (h : z < 0 ∨ (bs.length : Int) < z) :
    Calls Try.prog 28 #[.slice a m c, .int .i64 z] w fun r w' => ∃ D P E, r = .returned (.tuple #[.agg D.cells, .int .i64 ((P : Nat) : Int), .int .i64 ((E : Nat) : Int)]) ∧ UDet [] [] 1 0 0 D P E ∧ OwnV w' w.heap.size D ∧ Below w.heap.size w w' := by
  have A1 : Below w.heap.size w (w.alloc (.cells #[.slice none 0 0, .int .i64 0, .slice none 0 0, .int .i64 0, .int .i64 0, .int .i64 0, .slice none 0 0] 35)) := (Below.refl w.heap.size w).alloc (Nat.le_refl _) _
  have bg : EBox (w.alloc (.cells #[.slice none 0 0, .int .i64 0, .slice none 0 0, .int .i64 0, .int .i64 0, .int .i64 0, .slice none 0 0] 35)) (w.heap.size) ⟨.slice none 0 0, 0, .slice none 0 0, 0, 0, 0, .slice none 0 0, [], [], []⟩ := EBox.new w ⟨.slice none 0 0, 0, .slice none 0 0, 0, 0, 0, .slice none 0 0, [], [], []⟩
  have HC : Hid (Calls _ _ _ _ _) := readBytes_out (hr.later A1) z 1048 (by omega)
  clear hr h
  go_enter Try.func28, Try.ntmps28
  go_wp2_with fail
  refine HC.out.mono ?_
  rintro e1 w1 ⟨rfl, hw1⟩
  subst hw1
  have BG := Lib.hid bg
  clear bg
  go_wp2
  obtain ⟨g0, g1, g2, g3, g4, g5, g6⟩ := BG.out.cells7
  simp only at g0 g1 g2 g3 g4 g5 g6
  (try simp only [Exit.inBlock, Exit.then])
  refine bodyPost_ret (v := .tuple #[.agg #[.slice none 0 0, .int .i64 0, .slice none 0 0, .int .i64 0, .int .i64 0, .int .i64 0, .slice none 0 0], .int .i64 0, .int .i64 1]) ?hres rfl ?_
  case hres => simp [results, Try.results28, go_sem, g0, g1, g2, g3, g4, g5, g6]
  exact ⟨zeroD, 0, 1, rfl, .inr ⟨zero_data, rfl, .inl ⟨by decide, rfl⟩⟩, OwnV.zero _ _, A1⟩

end Go.Proofs.Ytjcpjpjccoeakaa
