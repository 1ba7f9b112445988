import Derived.Test.YtjcpjpjccoeakaaJ23
import Derived.Test.YtjcpjpjccoeakaaCell33
import Derived.Deep.RegionHeld3
namespace Go.Proofs.Ytjcpjpjccoeakaa
open Go.RowKit
set_option linter.unusedVariables false

/-- What bytes say of an entry: an entry and an error. -/
def Det (bs : List Nat) (D : EntD) (E : Nat) : Prop := (E = 0 ∧ checkS D = 0 ∧ keyL D = bs ∧ D.val = []) ∨ (¬ IsKey bs ∧ E = 27 ∧ D.fam = 0 ∧ D.ts = 0 ∧ D.seq = 0 ∧ D.kind = 0 ∧ D.row = [] ∧ D.qual = [] ∧ D.val = [])
theorem Det.same {bs : List Nat} {D D' : EntD} {E E' : Nat} (h : Det bs D E) (k : Det bs D' E') : E = E' ∧ EntD.Same D D' := by
  rcases h with ⟨h1, h2, h3, h4⟩ | ⟨h0, h1, h2, h3, h4, h5, h6, h7, h8⟩ <;> rcases k with ⟨k1, k2, k3, k4⟩ | ⟨k0, k1, k2, k3, k4, k5, k6, k7, k8⟩
  · obtain ⟨a, b, c, d, e, f⟩ := key_same h2 k2 (h3.trans k3.symm)
    exact ⟨h1.trans k1.symm, a, b, c, d, e, f, h4.trans k4.symm⟩
  · exact absurd ⟨D, h2, h4, h3⟩ k0
  · exact absurd ⟨D', k2, k4, k3⟩ h0
  · exact ⟨h1.trans k1.symm, h2.trans k2.symm, h3.trans k3.symm, h4.trans k4.symm, h5.trans k5.symm, h6.trans k6.symm, h7.trans k7.symm, h8.trans k8.symm⟩
theorem EntD.Same.symm {a b : EntD} (h : EntD.Same a b) : EntD.Same b a := ⟨h.1.symm, h.2.1.symm, h.2.2.1.symm, h.2.2.2.1.symm, h.2.2.2.2.1.symm, h.2.2.2.2.2.1.symm, h.2.2.2.2.2.2.symm⟩
/-- An entry that owns its row and its qualifier, apart from one another. -/
structure OwnE (w : World) (b : Nat) (D : EntD) : Prop where
  br : Bys D.row ∧ D.row.length ≤ 256
  bq : Bys D.qual ∧ D.qual.length ≤ 256
  vv : D.vv = .slice none 0 0 ∧ D.val = []
  row : Own w b D.vr D.row.length D.row
  qual : Own w b D.vq D.qual.length D.qual
  apart : ∀ k, D.vr.ownBlock = some k → D.vq.ownBlock ≠ some k
theorem OwnE.later {w w' : World} {b : Nat} {D : EntD} (h : OwnE w b D) (hb : Below w.heap.size w w') : OwnE w' b D := ⟨h.br, h.bq, h.vv, h.row.later hb, h.qual.later hb, h.apart⟩
theorem OwnE.ok {w : World} {b : Nat} {D : EntD} (h : OwnE w b D) : EntD.Ok w D :=
  ⟨h.row.rd h.br.1 (by have := h.br.2; omega), h.qual.rd h.bq.1 (by have := h.bq.2; omega), by rw [h.vv.1, h.vv.2]; exact Rd.nil _⟩
theorem ParsedAs.own {w w' : World} {r : Ending} {bs : List Nat} (h : ParsedAs w w' r bs) : ∃ D E, r = .returned (.tuple #[.agg D.cells, .int .i64 ((E : Nat) : Int)]) ∧ Det bs D E ∧ OwnE w' w.heap.size D ∧ Below w.heap.size w w' := by
  obtain ⟨hb, ⟨D, h1, h2, h3, h4, h5, h6, h7, h8, B, h9, h10, h11⟩ | ⟨h1, h2⟩⟩ := h
  · have f := check_facts h1
    refine ⟨D, 0, h7, .inl ⟨rfl, h1, h3, h2⟩, ⟨⟨h4, f.1.2⟩, ⟨h5, f.2.2.1⟩, ⟨h6, h2⟩, h8, h10.mono h9, fun k hk he => ?_⟩, hb⟩
    have := h11 k hk
    have := (h10.2.lt k he).1
    omega
  · refine ⟨zeroD, 27, h2, .inr ⟨h1, rfl, rfl, rfl, rfl, rfl, rfl, rfl, rfl⟩, ⟨⟨fun x hx => by simp [zeroD] at hx, by simp [zeroD]⟩, ⟨fun x hx => by simp [zeroD] at hx, by simp [zeroD]⟩, ⟨rfl, rfl⟩, own_nil _ _, own_nil _ _, fun k hk he => by cases hk⟩, hb⟩
theorem parse_own {w : World} {m c : Nat} {a : Option Addr} {bs : List Nat} (hr : Rd w (.slice a m c) bs) (h47 : bs.length ≤ 140737488355328) :
    Calls Try.prog 25 #[.slice a m c] w fun r w' => ∃ D E, r = .returned (.tuple #[.agg D.cells, .int .i64 ((E : Nat) : Int)]) ∧ Det bs D E ∧ OwnE w' w.heap.size D ∧ Below w.heap.size w w' :=
  (parse_any hr h47).mono fun _ _ h => h.own
theorem refParse_own {w : World} {m c : Nat} {a : Option Addr} {bs : List Nat} (hr : Rd w (.slice a m c) bs) (h47 : bs.length ≤ 140737488355328) :
    Calls Try.prog 43 #[.slice a m c] w fun r w' => ∃ D E, r = .returned (.tuple #[.agg D.cells, .int .i64 ((E : Nat) : Int)]) ∧ Det bs D E ∧ OwnE w' w.heap.size D ∧ Below w.heap.size w w' :=
  (refParse_any hr h47).mono fun _ _ h => h.own
/-- It stays as it was while other memory grows. -/
theorem OwnE.far {w w' : World} {b : Nat} {D : EntD} {o : Option Nat} (h : OwnE w b D) (k : w.grownBy w' o) (hne : ∀ g, o = some g → g < b) : OwnE w' b D :=
  ⟨h.br, h.bq, h.vv, h.row.far k (fun g hg e => by have := hne g hg; have := (h.row.2.lt g e).1; omega), h.qual.far k (fun g hg e => by have := hne g hg; have := (h.qual.2.lt g e).1; omega), h.apart⟩

theorem Marked.later {w0 w w' : World} {l : Value} {G mk : Nat} (h : Marked w0 w l G mk) (hb : Below w.heap.size w w') : Marked w0 w' l G mk := ⟨h.1, fun i hi => by
  obtain ⟨a, k, c, h1, h2, h3⟩ := h.2 i hi
  exact ⟨a, k, c, by rw [hb.cell (p := ⟨G, i, none⟩) (World.block_lt_of_cell? w _ h1)]; exact h1, h2.later hb, h3⟩⟩
theorem Marked.still {w0 w w' : World} {l : Value} {G mk : Nat} {o : Option Nat} (h : Marked w0 w l G mk) (k : w.grownBy w' o) (ho : ∀ g, o = some g → g < w0.heap.size ∧ l.ownBlock ≠ some g) : Marked w0 w' l G mk := ⟨h.1, fun i hi => by
  obtain ⟨a, kk, c, h1, h2, h3⟩ := h.2 i hi
  refine ⟨a, kk, c, ?_, ?_, h3⟩
  · refine k.cell h1 ?_
    intro e
    have := (ho G e.symm).1
    have := h.1
    omega
  · obtain ⟨q1, a', cap, q2, q3, q4, q5, q6, q7⟩ := h2
    refine ⟨q1, a', cap, q2, q3, q4, q5, q6, ?_⟩
    rcases q7 with q7 | ⟨b, off, rfl, hc⟩
    · exact .inl q7
    · refine .inr ⟨b, off, rfl, fun j hj => k.cell (hc j hj) ?_⟩
      intro e
      obtain ⟨e1, e2⟩ := ho b e.symm
      simp only [Value.slice.injEq] at q2
      rw [q2.1] at h3
      rcases h3 with h3 | h3
      · exact e2 (by rw [← h3]; rfl)
      · have := h3 b rfl
        omega⟩
theorem filled_grown (w : World) (g : Nat) (D : EntD) : w.grownBy (filled w g D) (some g) := by
  have a := filled_apart w g D
  exact ⟨a.os, a.tape, a.output, a.size, fun i hi hne => a.block i hi (fun e => hne (by rw [e]))⟩
theorem OwnE.fill {w : World} {b g : Nat} {D E : EntD} (h : OwnE w b D) (hg : g < b) : OwnE (filled w g E) b D := ⟨h.br, h.bq, h.vv, h.row.fillo hg, h.qual.fillo hg, h.apart⟩
theorem Laid.fillB {w : World} {B g : Nat} {u : Value} {bs : List Nat} {D0 E : EntD} (h : Laid w B u bs) (hg : EBox w g D0) : Laid (filled w g E) B u bs := by
  obtain ⟨g2, c, h1, h2, h3, h4⟩ := h
  exact ⟨g2, c, h1, h2, h3, h4.apartE hg (filled_apart _ _ _)⟩

set_option maxRecDepth 100000 in
set_option maxHeartbeats 16000000 in
theorem cellParses_walk {v0 : Value} {r : List Nat} {w : World} (hr0 : Rd w v0 r) :
    Calls Try.prog 9 #[v0] w fun q w' => q = .returned (.bool true) ∧ Below w.heap.size w w' := by
  obtain ⟨x0, y0, z0, rfl⟩ := rd_slice hr0
  obtain ⟨L, hL⟩ : ∃ L, L = r.take 5000 := ⟨_, rfl⟩
  have hbL : Bys L := by rw [hL]; exact fun x hx => hr0.1 x (List.mem_of_mem_take hx)
  have hlL : L.length ≤ 5000 := by rw [hL]; simp; omega
  have HL : Hid (L = r.take 5000 ∧ Bys L ∧ L.length ≤ 5000) := ⟨hL, hbL, hlL⟩
  have HR : Hid (Rd w (.slice x0 y0 z0) r) := hr0
  clear hr0 hL hbL hlL
  go_enter Try.func9, Try.ntmps9
  go_wp2_with fail
  refine (told_any _).mono ?_
  rintro q w1 ⟨rfl, B1⟩
  go_wp2_with fail
  refine (laid_any (N := 5000) (HR.out.later B1) (by decide)).mono ?_
  rintro q w2 ⟨u, rfl, li2, hb2⟩
  rw [← HL.out.1] at li2
  have B2 := B1.trans (hb2.mono B1.size)
  have HW2 : Hid (w.heap.size ≤ w2.heap.size) := B2.size
  obtain ⟨gi, ci, rfl, hci, hcm, ho⟩ := li2
  have li2 : Laid w2 _ (.slice (some ⟨gi, 0, none⟩) L.length ci) L := ⟨gi, ci, rfl, hci, hcm, ho⟩
  have HGI : Hid (gi < w2.heap.size) := (ho.2.lt gi rfl).2
  clear hb2 ho B1
  obtain ⟨nL, hnL⟩ : ∃ n, n = L.length := ⟨_, rfl⟩
  rw [← hnL] at li2 ⊢
  have HNL : Hid (nL = L.length) := hnL
  have LI2 := Lib.hid li2
  clear hnL hci hcm li2
  go_wp2_with fail
  refine (copied_any (LI2.out.rd HL.out.2.1 (by have := HL.out.2.2; omega)) (by have := HL.out.2.2; omega)).mono ?_
  rintro q w3 ⟨ad, md, cd, rfl, od3, hb3⟩
  have B3 := B2.trans (hb3.mono B2.size)
  have H3 : Hid (Laid w3 _ (.slice (some ⟨gi, 0, none⟩) nL ci) L ∧ Own w3 w2.heap.size (.slice ad md cd) md L) := ⟨LI2.out.later hb3, od3⟩
  have HS3 : Hid (w2.heap.size ≤ w3.heap.size) := hb3.size
  clear hb3 od3 LI2 B2
  go_wp2_with fail
  refine (parse_own (H3.out.1.rd HL.out.2.1 (by have := HL.out.2.2; omega)) (by have := HL.out.2.2; omega)).mono ?_
  rintro q w4 ⟨X, EX, rfl, dx, ox, hb4⟩
  obtain ⟨ar, cr, er⟩ := own_form ox.row.2
  obtain ⟨aq, cq, eq⟩ := own_form ox.qual.2
  have ev := ox.vv.1
  obtain ⟨vr, fam, vq, ts, sq, kd, vv, row, qual, val⟩ := X
  simp only at er eq ev
  subst er eq ev
  have hb4' := hb4.trans (((Below.refl w4.heap.size w4).alloc (Nat.le_refl _) (.cells (EntD.cells ⟨.slice ar row.length cr, fam, .slice aq qual.length cq, ts, sq, kd, .slice none 0 0, row, qual, val⟩) 35)).mono hb4.size)
  have A4 := (Below.refl w4.heap.size w4).alloc (Nat.le_refl _) (.cells (EntD.cells ⟨.slice ar row.length cr, fam, .slice aq qual.length cq, ts, sq, kd, .slice none 0 0, row, qual, val⟩) 35)
  have BX4 := Lib.hid (EBox.new w4 ⟨.slice ar row.length cr, fam, .slice aq qual.length cq, ts, sq, kd, .slice none 0 0, row, qual, val⟩)
  have B4 := B3.trans (hb4'.mono B3.size)
  have HDX : Hid (Det L ⟨.slice ar row.length cr, fam, .slice aq qual.length cq, ts, sq, kd, .slice none 0 0, row, qual, val⟩ EX) := dx
  have IX : Hid ((∀ g, (Value.slice ar row.length cr).ownBlock = some g ∨ (Value.slice aq qual.length cq).ownBlock = some g → w3.heap.size ≤ g ∧ g < w4.heap.size) ∧ w3.heap.size ≤ w4.heap.size) := ⟨fun g hg => by
    rcases hg with hg | hg
    · exact ox.row.2.lt g hg
    · exact ox.qual.2.lt g hg, hb4.size⟩
  have ID : Hid (∀ g, (Value.slice ad md cd).ownBlock = some g → w2.heap.size ≤ g ∧ g < w3.heap.size) := fun g hg => H3.out.2.2.lt g hg
  have H4 := Lib.hid (And.intro (H3.out.1.later hb4') (And.intro (H3.out.2.later hb4') (ox.later A4)))
  clear dx ox hb4 hb4' B3 H3 A4
  simp only [EntD.cells] at H4 BX4 B4 ⊢
  go_wp2_with fail
  refine (refParse_own (H4.out.2.1.rd HL.out.2.1 (by rw [H4.out.2.1.1]; have := HL.out.2.2; omega)) (by have := HL.out.2.2; omega)).mono ?_
  rintro q w5 ⟨Y, EY, rfl, dy, oy, hb5⟩
  obtain ⟨rfl, sxy⟩ := HDX.out.same dy
  obtain ⟨ar2, cr2, er⟩ := own_form oy.row.2
  obtain ⟨aq2, cq2, eq⟩ := own_form oy.qual.2
  have ev := oy.vv.1
  obtain ⟨vr, fam2, vq, ts2, sq2, kd2, vv, row2, qual2, val2⟩ := Y
  simp only at er eq ev
  subst er eq ev
  have hb5' := hb5.trans (((Below.refl w5.heap.size w5).alloc (Nat.le_refl _) (.cells (EntD.cells ⟨.slice ar2 row2.length cr2, fam2, .slice aq2 qual2.length cq2, ts2, sq2, kd2, .slice none 0 0, row2, qual2, val2⟩) 35)).mono hb5.size)
  have A5 := (Below.refl w5.heap.size w5).alloc (Nat.le_refl _) (.cells (EntD.cells ⟨.slice ar2 row2.length cr2, fam2, .slice aq2 qual2.length cq2, ts2, sq2, kd2, .slice none 0 0, row2, qual2, val2⟩) 35)
  have B5 := B4.trans (hb5'.mono B4.size)
  have HXY : Hid (EntD.Same ⟨.slice ar row.length cr, fam, .slice aq qual.length cq, ts, sq, kd, .slice none 0 0, row, qual, val⟩ ⟨.slice ar2 row2.length cr2, fam2, .slice aq2 qual2.length cq2, ts2, sq2, kd2, .slice none 0 0, row2, qual2, val2⟩) := sxy
  have HDY : Hid (Det L ⟨.slice ar2 row2.length cr2, fam2, .slice aq2 qual2.length cq2, ts2, sq2, kd2, .slice none 0 0, row2, qual2, val2⟩ EX) := dy
  have BX5 := BX4.out.later hb5'
  have BY5 := EBox.new w5 ⟨.slice ar2 row2.length cr2, fam2, .slice aq2 qual2.length cq2, ts2, sq2, kd2, .slice none 0 0, row2, qual2, val2⟩
  have HS5 : Hid (w4.heap.size + 1 ≤ w5.heap.size) := by unfold Hid; have := hb5.size; simpa using this
  have H5 := Lib.hid (And.intro (H4.out.1.later hb5') (And.intro (H4.out.2.1.later hb5') (And.intro (H4.out.2.2.later hb5') (And.intro (oy.later A5) (And.intro BX5 BY5)))))
  obtain ⟨c0, c1, c2, c3, c4, c5, c6⟩ := BX5.cells7
  obtain ⟨d0, d1, d2, d3, d4, d5, d6⟩ := BY5.cells7
  clear dy oy hb5 hb5' B4 H4 A5 sxy BX5 BY5 BX4
  simp only [EntD.cells] at H5 B5 c0 c1 c2 c3 c4 c5 c6 d0 d1 d2 d3 d4 d5 d6 ⊢
  go_wp2_with fail
  refine (sameEntry_eq H5.out.2.2.1.ok H5.out.2.2.2.1.ok HXY.out).mono ?_
  rintro q w6 ⟨rfl, hb6⟩
  have B6 := B5.trans (hb6.mono B5.size)
  have H6 := Lib.hid (And.intro (H5.out.1.later hb6) (And.intro (H5.out.2.1.later hb6) (And.intro (H5.out.2.2.1.later hb6) (And.intro (H5.out.2.2.2.1.later hb6) (And.intro (H5.out.2.2.2.2.1.later hb6) (H5.out.2.2.2.2.2.later hb6))))))
  have HS6 : Hid (w5.heap.size + 1 ≤ w6.heap.size) := by unfold Hid; have := hb6.size; simpa using this
  clear hb6 B5 H5 c0 c1 c2 c3 c4 c5 c6 d0 d1 d2 d3 d4 d5 d6
  go_wp2_with fail
  refine (intact_any H6.out.1 (H6.out.2.1.rd HL.out.2.1 (by rw [H6.out.2.1.1]; have := HL.out.2.2; omega)) (by have := HL.out.2.2; omega)).mono ?_
  rintro q w7 ⟨rfl, hb7⟩
  have B7 := B6.trans (hb7.mono B6.size)
  have H7 := Lib.hid (And.intro (H6.out.1.later hb7) (And.intro (H6.out.2.1.later hb7) (And.intro (H6.out.2.2.1.later hb7) (And.intro (H6.out.2.2.2.1.later hb7) (And.intro (H6.out.2.2.2.2.1.later hb7) (H6.out.2.2.2.2.2.later hb7))))))
  have HS7 : Hid (w6.heap.size ≤ w7.heap.size) := hb7.size
  clear hb7 B6 H6
  have D0 : Below w7.heap.size w7 w7.drew := (Below.refl _ _).drew
  have HD := Lib.hid (And.intro (H7.out.1.later D0) (And.intro (H7.out.2.1.later D0) (And.intro (H7.out.2.2.1.later D0) (And.intro (H7.out.2.2.2.1.later D0) (And.intro (H7.out.2.2.2.2.1.later D0) (H7.out.2.2.2.2.2.later D0))))))
  have B7D := Lib.hid (B7.trans (D0.mono B7.size))
  have k0 := HD.out.2.2.2.2.1.vr
  have k2 := HD.out.2.2.2.2.1.vq
  have HSS : Hid (w.heap.size ≤ w2.heap.size ∧ w2.heap.size ≤ w3.heap.size ∧ w3.heap.size ≤ w4.heap.size ∧ w4.heap.size + 1 ≤ w5.heap.size ∧ w5.heap.size + 1 ≤ w7.heap.size) := ⟨HW2.out, HS3.out, IX.out.2, HS5.out, by have := HS6.out; have := HS7.out; omega⟩
  have ROW : Hid (Own w7.drew w3.heap.size (.slice ar row.length cr) row.length row) := HD.out.2.2.1.row
  have QUA : Hid (Own w7.drew w3.heap.size (.slice aq qual.length cq) qual.length qual) := HD.out.2.2.1.qual
  have LENS : Hid (row.length ≤ 256 ∧ qual.length ≤ 256 ∧ ∀ g, (Value.slice ar row.length cr).ownBlock = some g → (Value.slice aq qual.length cq).ownBlock ≠ some g) := ⟨HD.out.2.2.1.br.2, HD.out.2.2.1.bq.2, HD.out.2.2.1.apart⟩
  have HC1 : Hid (Calls Try.prog 38 #[.slice ar row.length cr, .int .u8 17] w7.drew fun e w' => ∃ G, e = .returned (.slice (some ⟨G, 0, none⟩) 4 4) ∧ Marked w7.drew w' (.slice ar row.length cr) G 17 ∧ w7.drew.grownBy w' (Value.slice ar row.length cr).ownBlock) := longer_any (mk := 17) ROW.out (by decide) (by have := LENS.out.1; omega) (by have := HSS.out; simp; omega)
  have HC2 : Hid (∀ wx, Own wx w3.heap.size (.slice aq qual.length cq) qual.length qual → w3.heap.size ≤ wx.heap.size → Calls Try.prog 38 #[.slice aq qual.length cq, .int .u8 18] wx fun e w' => ∃ G, e = .returned (.slice (some ⟨G, 0, none⟩) 4 4) ∧ Marked wx w' (.slice aq qual.length cq) G 18 ∧ wx.grownBy w' (Value.slice aq qual.length cq).ownBlock) := fun wx h hs => longer_any (mk := 18) h (by decide) (by have := LENS.out.2.1; omega) hs
  have EB : Hid (∀ wx, w7.drew.grownBy wx (Value.slice ar row.length cr).ownBlock → EBox wx w4.heap.size ⟨.slice ar row.length cr, fam, .slice aq qual.length cq, ts, sq, kd, .slice none 0 0, row, qual, val⟩ ∧ Own wx w3.heap.size (.slice aq qual.length cq) qual.length qual ∧ (wx.cell? ⟨w4.heap.size, 0, none⟩ = some (.slice ar row.length cr) ∧ wx.cell? ⟨w4.heap.size, 2, none⟩ = some (.slice aq qual.length cq)) ∧ w3.heap.size ≤ wx.heap.size) := fun wx h => by
    have e := HD.out.2.2.2.2.1.far h (fun g hg => ebox_own HD.out.2.2.2.2.1 ROW.out hg)
    exact ⟨e, QUA.out.far h (fun g hg => LENS.out.2.2 g hg), ⟨e.vr, e.vq⟩, by have := h.size; have := HSS.out; simp at *; omega⟩
  have EB2 : Hid (∀ wx wy, EBox wx w4.heap.size ⟨.slice ar row.length cr, fam, .slice aq qual.length cq, ts, sq, kd, .slice none 0 0, row, qual, val⟩ → Own wx w3.heap.size (.slice aq qual.length cq) qual.length qual → wx.grownBy wy (Value.slice aq qual.length cq).ownBlock → (wy.cell? ⟨w4.heap.size, 0, none⟩ = some (.slice ar row.length cr) ∧ wy.cell? ⟨w4.heap.size, 2, none⟩ = some (.slice aq qual.length cq))) := fun wx wy e q h => by
    have e2 := e.far h (fun g hg => ebox_own e q hg)
    exact ⟨e2.vr, e2.vq⟩
  simp only at k0 k2
  clear D0 H7 B7
  go_wp2_with fail
  go_region_held3 (fun wx => wx.cell? ⟨w4.heap.size, 0, none⟩ = some (.slice ar row.length cr) ∧ wx.cell? ⟨w4.heap.size, 2, none⟩ = some (.slice aq qual.length cq)) (first | exact ⟨k0, k2⟩ | exact E8.out.2.2.1 | exact E9.out)
    (first
      | (go_at_call 38; refine (HC2.out _ HQ8.out E8.out.2.2.2).mono ?_; rintro q9 w9 ⟨G2, rfl, mk2, gr2⟩; have E9 := Lib.hid (EB2.out _ _ E8.out.1 HQ8.out gr2); have HG2 := Lib.hid gr2; have HM2 := Lib.hid mk2; clear gr2 mk2)
      | (go_at_call 38; refine HC1.out.mono ?_; rintro q8 w8 ⟨G1, rfl, mk1, gr1⟩; have E8 := Lib.hid (EB.out _ gr1); have HS8 : Hid (w7.heap.size ≤ w8.heap.size) := (by unfold Hid; have := gr1.size; simpa using this); have HG1 := Lib.hid gr1; have HM1 := Lib.hid mk1; have HQ8 := Lib.hid (EB.out _ gr1).2.1; clear gr1 mk1))
  have R1 : Hid (∀ g, (Value.slice ar row.length cr).ownBlock = some g → w3.heap.size ≤ g ∧ g < w4.heap.size) := fun g hg => IX.out.1 g (.inl hg)
  have R2 : Hid (∀ g, (Value.slice aq qual.length cq).ownBlock = some g → w3.heap.size ≤ g ∧ g < w4.heap.size) := fun g hg => IX.out.1 g (.inr hg)
  have L9 := (HD.out.1.far HG1.out (fun g hg h => by have := R1.out g hg; have := HGI.out; have := HSS.out; simp [Value.ownBlock] at h; omega)).far HG2.out (fun g hg h => by have := R2.out g hg; have := HGI.out; have := HSS.out; simp [Value.ownBlock] at h; omega)
  have O9 := (HD.out.2.1.far HG1.out (fun g hg h => by have := R1.out g hg; have := ID.out g h; omega)).far HG2.out (fun g hg h => by have := R2.out g hg; have := ID.out g h; omega)
  have Y9 := (HD.out.2.2.2.1.far HG1.out (fun g hg => by have := R1.out g hg; simp; omega)).far HG2.out (fun g hg => by have := R2.out g hg; simp; omega)
  have X8 := HD.out.2.2.2.2.1.far HG1.out (fun g hg => ebox_own HD.out.2.2.2.2.1 ROW.out hg)
  have X9 := X8.far HG2.out (fun g hg => ebox_own X8 HQ8.out hg)
  have V8 := HD.out.2.2.2.2.2.far HG1.out (fun g hg => ebox_own HD.out.2.2.2.2.2 ROW.out hg)
  have V9 := V8.far HG2.out (fun g hg => ebox_own V8 HQ8.out hg)
  have M1 := HM1.out.still HG2.out (fun g hg => ⟨by have := R2.out g hg; have := HSS.out; simp; omega, fun h => LENS.out.2.2 g h hg⟩)
  have M2 := HM2.out
  have B8 := below_grows B7D.out ROW.out (by have := HSS.out; omega) HG1.out
  have B9 := below_grows B8 HQ8.out (by have := HSS.out; omega) HG2.out
  have H9 := Lib.hid (And.intro L9 (And.intro O9 (And.intro Y9 (And.intro X9 (And.intro V9 (And.intro M1 M2))))))
  have HS9 : Hid (w7.heap.size ≤ w9.heap.size) := by unfold Hid; have := HG2.out.size; have := HG1.out.size; simp at *; omega
  have HB9 := Lib.hid B9
  clear L9 O9 Y9 X8 X9 V8 V9 M1 M2 B8 B9 HD k0 k2 HG1 HG2 HM1 HM2 HQ8 B7D E8 E9 EB EB2 HC1 HC2 ROW QUA
  go_wp2_with fail
  refine (parse_own (H9.out.1.rd HL.out.2.1 (by have := HL.out.2.2; omega)) (by have := HL.out.2.2; omega)).mono ?_
  rintro q w10 ⟨Z, EZ, rfl, dz, oz, hb10⟩
  obtain ⟨rfl, szy⟩ := HDY.out.same dz
  obtain ⟨ar3, cr3, er⟩ := own_form oz.row.2
  obtain ⟨aq3, cq3, eq⟩ := own_form oz.qual.2
  have ev := oz.vv.1
  obtain ⟨vr, fam3, vq, ts3, sq3, kd3, vv, row3, qual3, val3⟩ := Z
  simp only at er eq ev
  subst er eq ev
  have B10 := HB9.out.trans (hb10.mono HB9.out.size)
  have XB := H9.out.2.2.2.1.later hb10
  have YB := H9.out.2.2.2.2.1.later hb10
  have n1 : ¬ (w5.heap.size = w4.heap.size) := by have := HSS.out; omega
  have n2 : ¬ (w4.heap.size = w5.heap.size) := by have := HSS.out; omega
  have fa := filled_apart w10 w4.heap.size ⟨.slice ar3 row3.length cr3, fam3, .slice aq3 qual3.length cq3, ts3, sq3, kd3, .slice none 0 0, row3, qual3, val3⟩
  have fg := filled_grown w10 w4.heap.size ⟨.slice ar3 row3.length cr3, fam3, .slice aq3 qual3.length cq3, ts3, sq3, kd3, .slice none 0 0, row3, qual3, val3⟩
  have HF := Lib.hid (And.intro (H9.out.1.later hb10 |>.fillB (E := ⟨.slice ar3 row3.length cr3, fam3, .slice aq3 qual3.length cq3, ts3, sq3, kd3, .slice none 0 0, row3, qual3, val3⟩) XB) (And.intro ((H9.out.2.1.later hb10).apartE XB fa) (And.intro ((H9.out.2.2.1.later hb10).fill (g := w4.heap.size) (E := ⟨.slice ar3 row3.length cr3, fam3, .slice aq3 qual3.length cq3, ts3, sq3, kd3, .slice none 0 0, row3, qual3, val3⟩) (by simp)) (And.intro (oz.fill (g := w4.heap.size) (E := ⟨.slice ar3 row3.length cr3, fam3, .slice aq3 qual3.length cq3, ts3, sq3, kd3, .slice none 0 0, row3, qual3, val3⟩) (by have := HSS.out; have := HS9.out; omega)) (And.intro ((H9.out.2.2.2.2.2.1.later hb10).far fg (fun g hg => by
    cases hg
    exact ⟨by have := HSS.out; simp; omega, fun h => by have := R1.out _ h; omega⟩)) (And.intro ((H9.out.2.2.2.2.2.2.later hb10).far fg (fun g hg => by
    cases hg
    exact ⟨by have := HSS.out; have := HS8.out; omega, fun h => by have := R2.out _ h; omega⟩)) (B10.trans (fa.below (by have := HSS.out; omega) B10.size))))))))
  have HZY : Hid (EntD.Same ⟨.slice ar3 row3.length cr3, fam3, .slice aq3 qual3.length cq3, ts3, sq3, kd3, .slice none 0 0, row3, qual3, val3⟩ _) := szy.symm
  obtain ⟨x0', x1, x2, x3, x4, x5, x6⟩ := XB.cells7
  obtain ⟨xf0, xf1, xf2, xf3, xf4, xf5, xf6⟩ := XB.fz7
  obtain ⟨d0, d1, d2, d3, d4, d5, d6⟩ := YB.cells7
  simp only at x0' x1 x2 x3 x4 x5 x6 d0 d1 d2 d3 d4 d5 d6
  clear dz oz hb10 B10 XB YB fa fg H9 szy
  simp only [EntD.cells]
  go_wp2_with fail
  refine (sameEntry_eq (w := filled w10 w4.heap.size ⟨.slice ar3 row3.length cr3, fam3, .slice aq3 qual3.length cq3, ts3, sq3, kd3, .slice none 0 0, row3, qual3, val3⟩) HF.out.2.2.2.1.ok HF.out.2.2.1.ok HZY.out).mono ?_
  rintro q w11 ⟨rfl, hb11⟩
  have H11 := Lib.hid (And.intro (HF.out.1.later hb11) (And.intro (HF.out.2.1.later hb11) (And.intro (HF.out.2.2.2.2.1.later hb11) (And.intro (HF.out.2.2.2.2.2.1.later hb11) (HF.out.2.2.2.2.2.2.trans (hb11.mono HF.out.2.2.2.2.2.2.size))))))
  clear hb11 HF x0' x1 x2 x3 x4 x5 x6 xf0 xf1 xf2 xf3 xf4 xf5 xf6 d0 d1 d2 d3 d4 d5 d6
  go_wp2_with fail
  refine (intact_any H11.out.1 (H11.out.2.1.rd HL.out.2.1 (by rw [H11.out.2.1.1]; have := HL.out.2.2; omega)) (by have := HL.out.2.2; omega)).mono ?_
  rintro q w12 ⟨rfl, hb12⟩
  have H12 := Lib.hid (And.intro (H11.out.2.2.1.later hb12) (And.intro (H11.out.2.2.2.1.later hb12) (H11.out.2.2.2.2.trans (hb12.mono H11.out.2.2.2.2.size))))
  clear hb12 H11
  go_wp2_with fail
  refine (full_any H12.out.1).mono ?_
  rintro q w13 ⟨rfl, hw13⟩
  subst hw13
  go_wp2_with fail
  refine (full_any H12.out.2.1).mono ?_
  rintro q w14 ⟨rfl, hw14⟩
  subst hw14
  go_wp2
  go_ret
  exact ⟨rfl, H12.out.2.2⟩

end Go.Proofs.Ytjcpjpjccoeakaa
