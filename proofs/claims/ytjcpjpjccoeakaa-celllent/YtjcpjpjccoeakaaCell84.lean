import Derived.Test.YtjcpjpjccoeakaaJ37
import Derived.Test.YtjcpjpjccoeakaaCell83
import Derived.Deep.RegionHeld3
import Derived.Deep.DeepCutAuto
namespace Go.Proofs.Ytjcpjpjccoeakaa
open Go.RowKit
set_option linter.unusedVariables false

theorem OwnV.mono {w : World} {b b' : Nat} {D : EntD} (h : OwnV w b D) (hb : b' ≤ b) : OwnV w b' D := ⟨h.br, h.bq, h.bv, h.row.mono hb, h.qual.mono hb, h.val.mono hb, h.arq, h.arv, h.aqv⟩
theorem i64_nat (z : Int) (q : Nat) (h : z = (q : Int)) (hq : q < 9223372036854775808) : IntKind.i64.wrap z = (q : Int) := by
  subst h
  simp only [IntKind.wrap, IntKind.bits, IntKind.signed]
  simp
  omega
theorem KBox.empty {w : World} {g : Nat} (h : KBox w g (.slice none 0 0) (.slice none 0 0)) : Bk w g g 0 [] :=
  ⟨⟨none, 0, none, 0, h, ⟨rfl, by simp, World.ownsRow_nil _ _ _ _⟩, ⟨rfl, by simp, World.ownsRow_nil _ _ _ _⟩, fun x hx => by cases hx⟩, by simp, by simp⟩
theorem KBox.new (w : World) : KBox (w.alloc (.cells #[.slice none 0 0, .slice none 0 0] 76)) w.heap.size (.slice none 0 0) (.slice none 0 0) := heap_new w _
theorem Bk.len {w : World} {B g n : Nat} {its : List Item} (h : Bk w B g n its) : n = its.length := by
  obtain ⟨aL, cL, aW, cW, _, h2, _⟩ := h.box
  have := h2.1
  simpa using this
theorem Li.okD {wc wr : World} {w0 g gl n u : Nat} {a b D0 D1 D : EntD} {its : List Item} (h : Li wc wr w0 g gl n a b D0 D1 its) (e : D = if u = 0 then D0 else D1) (hf : EntD.Fine D) : EntD.Ok wr D := by
  have l : LaidE wr w0 D := by
    rw [e]
    split
    · exact h.l0
    · exact h.l1
  exact l.ok hf
theorem Li.cellsD {wc wr : World} {w0 g gl n u : Nat} {a b D0 D1 D : EntD} {its : List Item} (h : Li wc wr w0 g gl n a b D0 D1 its) (e : D = if u = 0 then D0 else D1) (hu : u < 2) : wr.cell? ⟨gl, u * 7, none⟩ = some D.vr ∧ wr.cell? ⟨gl, u * 7 + 1, none⟩ = some (.int .i64 D.fam) ∧ wr.cell? ⟨gl, u * 7 + 2, none⟩ = some D.vq ∧ wr.cell? ⟨gl, u * 7 + 3, none⟩ = some (.int .i64 D.ts) ∧ wr.cell? ⟨gl, u * 7 + 4, none⟩ = some (.int .i64 D.seq) ∧ wr.cell? ⟨gl, u * 7 + 5, none⟩ = some (.int .i64 D.kind) ∧ wr.cell? ⟨gl, u * 7 + 6, none⟩ = some D.vv := by
  obtain ⟨D', e', h'⟩ := h.row.cells hu
  rw [← e] at e'
  subst e'
  exact h'
/-- What stands behind the change of books. -/
structure Mid (w wx : World) (a b : EntD) (r0 : List Nat) (z : Int) (t g N : Nat) (its : List Item) (was : Value) : Prop where
  ea : EBox wx w.heap.size a
  eb : EBox wx (w.heap.size + 1) b
  bel : Below w.heap.size w wx
  hg : w.heap.size + 2 ≤ g
  gs : g < wx.heap.size
  bk : Bk wx g g N its
  n26 : N ≤ 26
  pre : (was = .pointer none ∧ ((t = 0 ∧ its = []) ∨ (t = 1 ∧ Ans a.cut b.cut r0 z (its.map Item.xs)))) ∨ (t = 2 ∧ its = [] ∧ ∃ g0 its0 C, was = .pointer (some ⟨g0, 0, none⟩) ∧ (∀ wy, Below g wx wy → Bs wy g0 g0 its0.length its0) ∧ its0.map Item.xs = C ++ C ∧ Ans a.cut b.cut r0 z C)
theorem Lt.start (w : World) (a b : EntD) (r0 : List Nat) (z : Int) : Lt w (((w.alloc (.cells a.cells 35)).alloc (.cells b.cells 35)).alloc (.cells #[.slice none 0 0, .slice none 0 0] 76)) a b r0 z 0 (.pointer (some ⟨w.heap.size + 1 + 1, 0, none⟩)) (.pointer none) := by
  obtain ⟨h1, h2, h3⟩ := two_in w a b
  obtain ⟨X, hX⟩ : ∃ X, X = (w.alloc (.cells a.cells 35)).alloc (.cells b.cells 35) := ⟨_, rfl⟩
  have hs : X.heap.size = w.heap.size + 1 + 1 := by rw [hX]; simp
  rw [← hX] at h1 h2 h3 ⊢
  have A := (Below.refl X.heap.size X).alloc (Nat.le_refl _) (.cells #[.slice none 0 0, .slice none 0 0] 76)
  refine ⟨h1.later A, h2.later A, h3.trans (A.mono h3.size), w.heap.size + 1 + 1, [], rfl, by omega, by simp; omega, ?_, .inl ⟨rfl, rfl, rfl⟩⟩
  rw [← hs]
  exact (KBox.new X).empty

/-- The lists against which a round's answers are held. -/
def FO (w : World) (gf : Nat) (C : List (List Nat)) : Prop := ∃ nf fits tl, Vw w gf nf fits ∧ fits.map Item.xs = C ++ tl
theorem Vw.later {w w' : World} {g n : Nat} {its : List Item} (h : Vw w g n its) (hb : Below w.heap.size w w') : Vw w' g n its := by
  obtain ⟨B, aW, cW, vL, h1, h2, h3⟩ := h
  exact ⟨B, aW, cW, vL, h1.later hb, h2.later hb, fun p hp => ⟨(h3 p hp).1.later hb, (h3 p hp).2⟩⟩
theorem FO.later {w w' : World} {g : Nat} {C : List (List Nat)} (h : FO w g C) (hb : Below w.heap.size w w') : FO w' g C := by
  obtain ⟨nf, fits, tl, h1, h2⟩ := h
  exact ⟨nf, fits, tl, h1.later hb, h2⟩
theorem Mid.first {w wc wr : World} {a b D0 D1 : EntD} {r0 : List Nat} {z : Int} {t g N n gl : Nat} {its nw : List Item} {was : Value} (h : Mid w wc a b r0 z t g N its was) (k : Li wc wr w.heap.size g gl n a b D0 D1 (its ++ nw)) (hA : Ans a.cut b.cut r0 z (nw.map Item.xs)) : (was = .pointer none ∧ FO wr g (nw.map Item.xs)) ∨ ∃ gf, was = .pointer (some ⟨gf, 0, none⟩) ∧ FO wr gf (nw.map Item.xs) := by
  rcases h.pre with ⟨h1, ⟨_, h2⟩ | ⟨_, h2⟩⟩ | ⟨_, _, g0, its0, C, h1, h2, h3, h4⟩
  · subst h2
    exact .inl ⟨h1, n, nw, [], by simpa using k.bk.vw, by simp⟩
  · refine .inl ⟨h1, n, _, nw.map Item.xs, k.bk.vw, ?_⟩
    rw [List.map_append, h2.one hA]
  · refine .inr ⟨g0, h1, _, its0, C, (h2 wr k.bel).vw, ?_⟩
    rw [h3, h4.one hA]
theorem Lt.next {w wc wr wz : World} {a b D0 D1 : EntD} {r0 : List Nat} {z : Int} {t g N n gl : Nat} {its nw : List Item} {was : Value} (h : Mid w wc a b r0 z t g N its was) (k0 : Li wc wr w.heap.size g gl n a b D0 D1 (its ++ nw)) (hz : Below wr.heap.size wr wz) (hA : Ans a.cut b.cut r0 z (nw.map Item.xs)) : Lt w wz a b r0 z (t + 1) (.pointer (some ⟨g, 0, none⟩)) was := by
  have k := k0.later hz
  have hn := k.bk.len
  have hg := h.hg
  refine ⟨k.ea, k.eb, h.bel.trans (k.bel.mono (by omega)), g, its ++ nw, rfl, h.hg, k.gs, by rw [← hn]; exact k.bk, ?_⟩
  rcases h.pre with ⟨h1, ⟨h0, h2⟩ | ⟨h0, h2⟩⟩ | ⟨h0, h00, g0, its0, C, h1, h2, h3, h4⟩
  · subst h2
    exact .inr (.inl ⟨by omega, h1, by simpa using hA⟩)
  · refine .inr (.inr (.inl ⟨by omega, h1, nw.map Item.xs, hA, ?_⟩))
    rw [List.map_append, h2.one hA]
  · subst h00
    have e := h4.one hA
    exact .inr (.inr (.inr ⟨by omega, g0, its0, C, h1, fun wx hx => h2 wx (k.bel.trans hx), h3, h4, by simpa using e.symm⟩))
theorem Part.ans {a b : EntD} {bs : List Nat} {z : Int} {C C' : List (List Nat)} (h : Part a b 2 C) (k : AnsB bs z C') : Ans a b bs z (C ++ C') := by
  rcases h with ⟨h, _⟩ | ⟨h, _⟩ | ⟨_, C1, C2, h1, h2, rfl⟩
  · omega
  · omega
  · exact ⟨C1, C2, C', h1, h2, k, rfl⟩
/-- What is read at a place of the two lists. -/
theorem held_at {w : World} {B g n N d gf : Nat} {its nw : List Item} (h : Bk w B g n (its ++ nw)) (hN : N = its.length) (f : FO w gf (nw.map Item.xs)) (hd : d < nw.length) : ∃ aL cL gL al nl cl nf cW gW vL ak ck, aL = some ⟨gL, 0, none⟩ ∧ w.cell? ⟨g, 0, none⟩ = some (.slice aL n cL) ∧ w.cell? ⟨gL, N + d, none⟩ = some (.slice al nl cl) ∧ N + d < n ∧ d < nf ∧ w.cell? ⟨gf, 0, none⟩ = some vL ∧ w.cell? ⟨gf, 1, none⟩ = some (.slice (some ⟨gW, 0, none⟩) nf cW) ∧ w.cell? ⟨gW, d, none⟩ = some (.slice ak nl ck) ∧ nl ≤ 100000 ∧ ∃ xs, Rd w (.slice al nl cl) xs ∧ Rd w (.slice ak nl ck) xs := by
  obtain ⟨aL, cL, aW, cW, h1, h2, h3, h4⟩ := h.box
  have hn := h.len
  rw [List.length_append] at hn
  obtain ⟨gL, rfl, c1⟩ := h2.at (x := N + d) (by omega)
  have hmem : nw[d] ∈ its ++ nw := List.mem_append_right _ (List.getElem_mem hd)
  obtain ⟨o1, _, hby, hl⟩ := h.own nw[d] hmem
  obtain ⟨al, cl, e1⟩ := own_form o1.2
  obtain ⟨nf, fits, tl, ⟨B2, aW2, cW2, vL, f1, f2, f3⟩, ef⟩ := f
  have lf : fits.length = nw.length + tl.length := by have := congrArg List.length ef; simpa using this
  have hnf : nf = fits.length := by have := f2.1; simpa using this
  obtain ⟨gW, rfl, c2⟩ := f2.at (x := d) (by omega)
  have hdf : d < fits.length := by omega
  have exs : fits[d].xs = nw[d].xs := by
    have h5 : (fits.map Item.xs)[d]? = (nw.map Item.xs ++ tl)[d]? := by rw [ef]
    rw [List.getElem?_append_left (by simpa using hd)] at h5
    simpa [hd, hdf] using h5
  obtain ⟨o2, hby2, hl2⟩ := f3 fits[d] (List.getElem_mem hdf)
  obtain ⟨ak, ck, e2⟩ := own_form o2.2
  rw [exs] at e2 o2
  refine ⟨_, cL, gL, al, nw[d].xs.length, cl, nf, cW2, gW, vL, ak, ck, rfl, h1.l, ?_, by omega, by omega, f1.l, f1.w, ?_, hl, nw[d].xs, ?_, ?_⟩
  · rw [c1, ← e1]
    have : (its ++ nw)[N + d]? = some nw[d] := by rw [List.getElem?_append_right (by omega), hN]; simp [hd]
    simp [hN, hd]
  · rw [c2, ← e2]
    simp [hdf]
  · rw [← e1]
    exact o1.rd hby (by omega)
  · rw [← e2]
    exact o2.rd hby (by omega)

set_option maxRecDepth 100000 in
set_option maxHeartbeats 32000000 in
theorem cellLent_walk {vb : Value} {r0 : List Nat} {a b : EntD} {w : World} {at_ : Int} (hr0 : Rd w vb r0) (h47 : r0.length ≤ 140737488355328) (ha : EntD.Ok w a) (hb : EntD.Ok w b) :
    Calls Try.prog 12 #[.agg a.cells, .agg b.cells, vb, .int .i64 at_] w fun r w' => r = .returned (.bool true) ∧ Below w.heap.size w w' := by
  obtain ⟨x0, y0, z0, rfl⟩ := rd_slice hr0
  have HL0 := Lib.hid (Lt.start w a b r0 at_)
  have HK : Hid (Rd w (.slice x0 y0 z0) r0 ∧ r0.length ≤ 140737488355328 ∧ EntD.Ok w a ∧ EntD.Ok w b ∧ EntD.Fine a.cut ∧ EntD.Fine b.cut) := ⟨hr0, h47, ha, hb, EntD.cut_fine ha, EntD.cut_fine hb⟩
  clear hr0 h47 ha hb
  simp only [EntD.cells] at HL0 ⊢
  go_enter Try.func12, Try.ntmps12
  go_wp2
  go_loopw [9, 10, 11, 12, 13, 14, 15, 16, 17, 18, 19, 20, 21, 22, 23, 24, 25, 26, 27, 28, 29, 30, 31, 32, 33, 34] (fun k was i q12 q13 q14 q15 q16 q17 q18 q19 q20 q21 q22 q23 q24 q25 q26 q27 q28 q29 q30 q31 q32 q33 q34 wr => ∃ t : Nat, t ≤ 3 ∧ i = .int .i64 (t : Int) ∧ Hid (Lt w wr a b r0 at_ t k was)) (fun _ _ i _ _ _ _ _ _ _ _ _ _ _ _ _ _ _ _ _ _ _ _ _ _ _ _ => 3 - (intOf i).toNat)
  case atStart => exact ⟨0, by omega, rfl, HL0⟩
  case round =>
    clear HL0
    obtain ⟨t, ht3, rfl, HL⟩ := hrel
    obtain ⟨g, its, rfl, hg, gs, hbk, hst⟩ := HL.out.st
    have HB := Lib.hid hbk
    have HST := Lib.hid hst
    obtain ⟨aL, cL, aW, cW, hbx, _⟩ := hbk.box
    have kl := hbx.l
    clear hbk hst hbx
    by_cases hlt : t < 3
    · have hlt2 : (t : Int) < 3 := by omega
      go_upto_if 47 with fail
      go_cut [9, 10, 12] (fun k' was' n' wx => ∃ g' N its', k' = .pointer (some ⟨g', 0, none⟩) ∧ n' = .int .i64 ((N : Nat) : Int) ∧ Hid (Mid w wx a b r0 at_ t g' N its' was'))
      case first =>
        have hsz := HL.out.bel.size
        by_cases h2 : t = 2
        · subst h2
          have ⟨C, hC, eC⟩ : ∃ C, Ans a.cut b.cut r0 at_ C ∧ its.map Item.xs = C ++ C := by
            rcases HST.out with ⟨h, _⟩ | ⟨h, _⟩ | ⟨_, _, h⟩ | ⟨h, _⟩
            · omega
            · omega
            · exact h
            · omega
          have l52 : its.length ≤ 1000 := by
            have h1 := congrArg List.length eC
            have h2 := hC.len
            simp at h1
            omega
          have A := (Below.refl wr.heap.size wr).alloc (Nat.le_refl _) (.cells #[.slice none 0 0, .slice none 0 0] 76)
          have SC : Hid (Calls _ _ _ _ _) := settle_any (w0 := wr) (w := wr.alloc (.cells #[.slice none 0 0, .slice none 0 0] 76)) HB.out A l52 (by simp; omega)
          have HCC := Lib.hid (And.intro hC eC)
          clear hC eC
          go_wp2_with fail
          refine SC.out.mono ?_
          rintro r ws ⟨rfl, bel, fr, hbs⟩
          have HN : Hid (Mid w ws a b r0 at_ 2 wr.heap.size 0 [] (.pointer (some ⟨g, 0, none⟩))) := by
            have hb2 := A.mono (Nat.le_of_lt gs)
            have hb3 := hb2.trans bel
            have hkb : KBox ws wr.heap.size (.slice none 0 0) (.slice none 0 0) := fr.kbox (B := g) (ys := Item.xs) (KBox.new wr) (fun p hp => ((HB.out.own p hp).1).later A)
            refine ⟨HL.out.ea.keep hb3 (by omega), HL.out.eb.keep hb3 (by omega), HL.out.bel.trans (hb3.mono (by omega)), by omega, by have := fr.size; simp at this; omega, hkb.empty, by omega, .inr ⟨rfl, rfl, g, its, C, rfl, hbs, HCC.out.2, HCC.out.1⟩⟩
          clear SC bel fr hbs A
          go_wp2
          go_meet
          exact ⟨wr.heap.size, 0, [], rfl, rfl, HN⟩
        · have h2b : ((t : Int) == 2) = false := by simp; omega
          have h2c : ¬ ((t : Int) = 2) := by omega
          have HN : Hid (Mid w wr a b r0 at_ t g its.length its u10) := by
            refine ⟨HL.out.ea, HL.out.eb, HL.out.bel, hg, gs, HB.out, ?_, ?_⟩
            · rcases HST.out with ⟨_, _, h⟩ | ⟨_, _, h⟩ | ⟨h, _⟩ | ⟨h, _⟩
              · rw [h]; simp
              · have := h.len
                simp at this
                omega
              · omega
              · omega
            · rcases HST.out with ⟨h1, h2, h⟩ | ⟨h1, h2, h⟩ | ⟨h, _⟩ | ⟨h, _⟩
              · exact .inl ⟨h2, .inl ⟨h1, h⟩⟩
              · exact .inl ⟨h2, .inr ⟨h1, h⟩⟩
              · omega
              · omega
          go_wp2
          go_meet
          exact ⟨g, its.length, its, rfl, rfl, HN⟩
      case rest =>
      obtain ⟨g', N, its', rfl, rfl, HM⟩ := hcut
      clear HL HB HST kl
      go_wp2_with fail
      refine lent13_region (a := a) (b := b) HM.out.ea (HK.out.2.2.1.later HM.out.bel) HM.out.eb (HK.out.2.2.2.1.later HM.out.bel) _ (fun gl D0 D1 wF rw0 l0 l1 s0 s1 bF => ?_)
      have hgc := HM.out.gs
      have hg2 := HM.out.hg
      have hn26 := HM.out.n26
      have LI0 : Hid (Li wc wF w.heap.size g' gl N a b D0 D1 (its' ++ []) ∧ Part a.cut b.cut 0 (([] : List Item).map Item.xs)) := ⟨⟨HM.out.ea.later bF, HM.out.eb.later bF, bF.mono (by omega), by simpa using HM.out.bk.later bF, rw0, l0.mono HM.out.bel.size, l1.mono HM.out.bel.size, by have := bF.size; omega⟩, .inl ⟨rfl, rfl⟩⟩
      have FF : Hid ((EntD.Fine D0 ∧ EntD.Same D0 a.cut) ∧ (EntD.Fine D1 ∧ EntD.Same D1 b.cut)) := ⟨⟨HK.out.2.2.2.2.1.same s0, s0⟩, HK.out.2.2.2.2.2.same s1, s1⟩
      clear rw0 l0 l1 s0 s1 bF
      unfold lentAct
      simp only [EntD.cells]
      go_wp2
      go_loopw [14, 15, 16, 17, 18, 19, 20, 21, 22, 23, 24, 25, 26, 27] (fun c c15 c16 c17 c18 c19 c20 c21 c22 c23 c24 c25 c26 c27 wr => ∃ u : Nat, u ≤ 2 ∧ c = .int .i64 (u : Int) ∧ ∃ new, Hid (Li wc wr w.heap.size g' gl (N + 10 * u) a b D0 D1 (its' ++ new) ∧ Part a.cut b.cut u (new.map Item.xs))) (fun c _ _ _ _ _ _ _ _ _ _ _ _ _ _ => 2 - (intOf c).toNat)
      case atStart => exact ⟨0, by omega, rfl, [], LI0⟩
      case round =>
        clear LI0
        obtain ⟨u, hu, rfl, new, HI⟩ := hrel
        by_cases hlu : u < 2
        · have hlu2 : (u : Int) < 2 := by omega
          have hu0 : (0 : Int) ≤ (u : Int) := by omega
          obtain ⟨D, hD⟩ : ∃ D, D = if u = 0 then D0 else D1 := ⟨_, rfl⟩
          have HF : Hid (EntD.Fine D ∧ EntD.Same D (if u = 0 then a.cut else b.cut)) := by
            unfold Hid
            rw [hD]
            split
            · exact FF.out.1
            · exact FF.out.2
          have lD : LaidE wr w.heap.size D := by
            rw [hD]
            split
            · exact HI.out.1.l0
            · exact HI.out.1.l1
          obtain ⟨gr, nr, cr, eR⟩ := lD.1.form2
          obtain ⟨gq, nq, cq, eQ⟩ := lD.2.1.form2
          obtain ⟨gv, nv, cv, eV⟩ := lD.2.2.form2
          obtain ⟨vr, fam, vq, ts, sq, kd, vv, row, qual, val⟩ := D
          simp only at eR eQ eV
          subst eR eQ eV
          have HD := Lib.hid hD
          clear hD lD
          have HPT := Lib.hid HI.out.2
          have LA := Lib.hid HI.out.1
          obtain ⟨nb, hnb⟩ : ∃ nb, nb = N + 10 * u := ⟨_, rfl⟩
          have hnb46 : nb ≤ 46 := by omega
          have HNB := Lib.hid hnb
          rw [← hnb] at LA
          clear HI hnb
          have PA : Hid (Pend wr g' (its' ++ new) []) := Pend.nil _ _ _
          obtain ⟨cc0, cc1, cc2, cc3, cc4, cc5, cc6⟩ := LA.out.cellsD HD.out hlu
          simp only at cc0 cc1 cc2 cc3 cc4 cc5 cc6
          have CK : Hid (Calls _ _ _ _ _) := key_all (LA.out.okD HD.out HF.out.1)
          simp only [EntD.cells] at CK
          go_wp2_with fail
          refine CK.out.mono ?_
          rintro r w1 ⟨ax, mx, cx, rfl, ox, hb1⟩
          have L1 := Lib.hid (LA.out.later hb1)
          have P1 : Hid (Pend w1 g' (its' ++ new) [(.slice ax mx cx, keyA (⟨.slice (some ⟨gr, 0, none⟩) nr cr, fam, .slice (some ⟨gq, 0, none⟩) nq cq, ts, sq, kd, .slice (some ⟨gv, 0, none⟩) nv cv, row, qual, val⟩ : EntD))]) := PA.out.push LA.out.bk hb1 (own_len ox) (by have := LA.out.gs; omega) (keyA_ok HF.out.1).1 (by have := (keyA_ok HF.out.1).2; omega)
          have OX1 := Lib.hid (ox.mono (by have := LA.out.gs; omega : g' ≤ _))
          clear LA PA CK ox hb1 cc0 cc1 cc2 cc3 cc4 cc5 cc6
          obtain ⟨cc0, cc1, cc2, cc3, cc4, cc5, cc6⟩ := L1.out.cellsD HD.out hlu
          simp only at cc0 cc1 cc2 cc3 cc4 cc5 cc6
          have CK : Hid (Calls _ _ _ _ _) := pack_all (L1.out.okD HD.out HF.out.1)
          simp only [EntD.cells] at CK
          go_wp2_with fail
          refine CK.out.mono ?_
          rintro r w2 ⟨ay, my, cy, rfl, ox, hb2⟩
          have L2 := Lib.hid (L1.out.later hb2)
          have P2 : Hid (Pend w2 g' (its' ++ new) [(.slice ax mx cx, keyA (⟨.slice (some ⟨gr, 0, none⟩) nr cr, fam, .slice (some ⟨gq, 0, none⟩) nq cq, ts, sq, kd, .slice (some ⟨gv, 0, none⟩) nv cv, row, qual, val⟩ : EntD)), (.slice ay my cy, packA (⟨.slice (some ⟨gr, 0, none⟩) nr cr, fam, .slice (some ⟨gq, 0, none⟩) nq cq, ts, sq, kd, .slice (some ⟨gv, 0, none⟩) nv cv, row, qual, val⟩ : EntD))]) := P1.out.push L1.out.bk hb2 (own_len ox) (by have := L1.out.gs; omega) (packA_ok HF.out.1).1 (by have := (packA_ok HF.out.1).2; omega)
          have OX2 := Lib.hid (OX1.out.later hb2)
          have OY2 := Lib.hid (ox.mono (by have := L1.out.gs; omega : g' ≤ _))
          clear OX1
          clear L1 P1 CK ox hb2 cc0 cc1 cc2 cc3 cc4 cc5 cc6
          obtain ⟨cc0, cc1, cc2, cc3, cc4, cc5, cc6⟩ := L2.out.cellsD HD.out hlu
          simp only at cc0 cc1 cc2 cc3 cc4 cc5 cc6
          have CK : Hid (Calls _ _ _ _ _) := start_any (L2.out.okD HD.out HF.out.1).1
          simp only at CK
          go_wp2_with fail
          refine CK.out.mono ?_
          rintro r w3 ⟨as_, ms_, cs_, rfl, ox, hb3⟩
          have L3 := Lib.hid (L2.out.later hb3)
          have P3 : Hid (Pend w3 g' (its' ++ new) [(.slice ax mx cx, keyA (⟨.slice (some ⟨gr, 0, none⟩) nr cr, fam, .slice (some ⟨gq, 0, none⟩) nq cq, ts, sq, kd, .slice (some ⟨gv, 0, none⟩) nv cv, row, qual, val⟩ : EntD)), (.slice ay my cy, packA (⟨.slice (some ⟨gr, 0, none⟩) nr cr, fam, .slice (some ⟨gq, 0, none⟩) nq cq, ts, sq, kd, .slice (some ⟨gv, 0, none⟩) nv cv, row, qual, val⟩ : EntD)), (.slice as_ ms_ cs_, startL row)]) := P2.out.push L2.out.bk hb3 (own_len ox) (by have := L2.out.gs; omega) (startL_ok row HF.out.1.1.1).1 (by have := (startL_ok row HF.out.1.1.1).2; omega)
          have OX3 := Lib.hid (OX2.out.later hb3)
          have OY3 := Lib.hid (OY2.out.later hb3)
          clear OX2 OY2
          clear L2 P2 CK ox hb3 cc0 cc1 cc2 cc3 cc4 cc5 cc6
          obtain ⟨cc0, cc1, cc2, cc3, cc4, cc5, cc6⟩ := L3.out.cellsD HD.out hlu
          simp only at cc0 cc1 cc2 cc3 cc4 cc5 cc6
          have CK : Hid (Calls _ _ _ _ _) := behind_any (L3.out.okD HD.out HF.out.1).1
          simp only at CK
          go_wp2_with fail
          refine CK.out.mono ?_
          rintro r w4 ⟨az, mz, cz, rfl, ox, hb4⟩
          have L4 := Lib.hid (L3.out.later hb4)
          have P4 : Hid (Pend w4 g' (its' ++ new) [(.slice ax mx cx, keyA (⟨.slice (some ⟨gr, 0, none⟩) nr cr, fam, .slice (some ⟨gq, 0, none⟩) nq cq, ts, sq, kd, .slice (some ⟨gv, 0, none⟩) nv cv, row, qual, val⟩ : EntD)), (.slice ay my cy, packA (⟨.slice (some ⟨gr, 0, none⟩) nr cr, fam, .slice (some ⟨gq, 0, none⟩) nq cq, ts, sq, kd, .slice (some ⟨gv, 0, none⟩) nv cv, row, qual, val⟩ : EntD)), (.slice as_ ms_ cs_, startL row), (.slice az mz cz, behindL row)]) := P3.out.push L3.out.bk hb4 (own_len ox) (by have := L3.out.gs; omega) (behindL_ok row HF.out.1.1.1).1 (by have := (behindL_ok row HF.out.1.1.1).2; omega)
          have OX4 := Lib.hid (OX3.out.later hb4)
          have OY4 := Lib.hid (OY3.out.later hb4)
          clear OX3 OY3
          clear L3 P3 CK ox hb4 cc0 cc1 cc2 cc3 cc4 cc5 cc6
          have CK : Hid (Calls _ _ _ _ _) := keep_pend L4.out.bk P4.out (by omega) (by have := L4.out.gs; omega) (Nat.le_refl _)
          go_wp2_with fail
          refine CK.out.mono ?_
          rintro r w5 ⟨rfl, j5, e5, bk, pe, bel, T⟩
          have L5 := Lib.hid (L4.out.kept T bel bk)
          have P5 := Lib.hid pe
          have E5 := Lib.hid e5
          have OX5 := Lib.hid (T.own OX4.out)
          have OY5 := Lib.hid (T.own OY4.out)
          clear L4 P4 CK bk pe bel T e5 OX4 OY4
          have CK : Hid (Calls _ _ _ _ _) := keep_pend L5.out.bk P5.out (by omega) (by have := L5.out.gs; omega) (Nat.le_refl _)
          go_wp2_with fail
          refine CK.out.mono ?_
          rintro r w6 ⟨rfl, j6, e6, bk, pe, bel, T⟩
          have L6 := Lib.hid (L5.out.kept T bel bk)
          have P6 := Lib.hid pe
          have E6 := Lib.hid e6
          have OX6 := Lib.hid (T.own OX5.out)
          have OY6 := Lib.hid (T.own OY5.out)
          clear L5 P5 CK bk pe bel T e6 OX5 OY5
          have CK : Hid (Calls _ _ _ _ _) := keep_pend L6.out.bk P6.out (by omega) (by have := L6.out.gs; omega) (Nat.le_refl _)
          go_wp2_with fail
          refine CK.out.mono ?_
          rintro r w7 ⟨rfl, j7, e7, bk, pe, bel, T⟩
          have L7 := Lib.hid (L6.out.kept T bel bk)
          have P7 := Lib.hid pe
          have E7 := Lib.hid e7
          have OX7 := Lib.hid (T.own OX6.out)
          have OY7 := Lib.hid (T.own OY6.out)
          clear L6 P6 CK bk pe bel T e7 OX6 OY6
          have CK : Hid (Calls _ _ _ _ _) := keep_pend L7.out.bk P7.out (by omega) (by have := L7.out.gs; omega) (Nat.le_refl _)
          go_wp2_with fail
          refine CK.out.mono ?_
          rintro r w8 ⟨rfl, j8, e8, bk, pe, bel, T⟩
          have L8 := Lib.hid (L7.out.kept T bel bk)
          have P8 := Lib.hid pe
          have E8 := Lib.hid e8
          have OX8 := Lib.hid (T.own OX7.out)
          have OY8 := Lib.hid (T.own OY7.out)
          clear L7 P7 CK bk pe bel T e8 OX7 OY7
          have CK : Hid (Calls _ _ _ _ _) := copied_any (OX8.out.rd (keyA_ok HF.out.1).1 (by rw [OX8.out.1]; have := (keyA_ok HF.out.1).2; omega)) (by have := (keyA_ok HF.out.1).2; omega)
          go_wp2_with fail
          refine CK.out.mono ?_
          rintro r w9 ⟨a9, m9, c9, rfl, o9, hb9⟩
          have L9 := Lib.hid (L8.out.later hb9)
          have P9 := Lib.hid (P8.out.later hb9)
          have OY9 := Lib.hid (OY8.out.later hb9)
          have CK2 : Hid (Calls _ _ _ _ _) := parse_own (o9.rd (keyA_ok HF.out.1).1 (by rw [o9.1]; have := (keyA_ok HF.out.1).2; omega)) (by have := (keyA_ok HF.out.1).2; omega)
          clear L8 P8 OX8 OY8 CK o9 hb9
          go_wp2_with fail
          refine CK2.out.mono ?_
          rintro r w10 ⟨X, EX, rfl, dx, oe, hb10⟩
          have ov := oe.ownV
          have hvv := oe.vv
          have DX := Lib.hid dx
          obtain ⟨ar10, cr10, er⟩ := own_form ov.row.2
          obtain ⟨aq10, cq10, eq⟩ := own_form ov.qual.2
          obtain ⟨av10, cv10, ev⟩ := own_form ov.val.2
          obtain ⟨vr, fam10, vq, ts10, sq10, kd10, vv, row10, qual10, val10⟩ := X
          simp only at er eq ev
          subst er eq ev
          have A := (Below.refl w10.heap.size w10).alloc (Nat.le_refl _) (.cells (EntD.cells (⟨.slice ar10 row10.length cr10, fam10, .slice aq10 qual10.length cq10, ts10, sq10, kd10, .slice av10 val10.length cv10, row10, qual10, val10⟩ : EntD)) 35)
          have hbA := hb10.trans (A.mono hb10.size)
          have L10 := Lib.hid (L9.out.later hbA)
          have P10 := Lib.hid (P9.out.push3 L9.out.bk hbA (ov.later A) (by have := L9.out.gs; omega))
          have OV10 := Lib.hid ((ov.later A).mono (by have := L9.out.gs; omega : g' ≤ _))
          have BX10 := Lib.hid (EBox.new w10 (⟨.slice ar10 row10.length cr10, fam10, .slice aq10 qual10.length cq10, ts10, sq10, kd10, .slice av10 val10.length cv10, row10, qual10, val10⟩ : EntD))
          have OY10 := Lib.hid (OY9.out.later hbA)
          clear L9 P9 OY9 CK2 ov oe dx hb10 hbA A hvv
          have CK : Hid (Calls _ _ _ _ _) := copied_any (OY10.out.rd (packA_ok HF.out.1).1 (by rw [OY10.out.1]; have := (packA_ok HF.out.1).2; omega)) (by have := (packA_ok HF.out.1).2; omega)
          simp only [EntD.cells] at L10 P10 OV10 BX10 OY10 CK DX ⊢
          go_wp2_with fail
          refine CK.out.mono ?_
          rintro r w11 ⟨a11, m11, c11, rfl, o11, hb11⟩
          have L11 := Lib.hid (L10.out.later hb11)
          have P11 := Lib.hid (P10.out.later hb11)
          have OV11 := Lib.hid (OV10.out.later hb11)
          have BX11 := Lib.hid (BX10.out.later hb11)
          obtain ⟨⟨K, P1, E1⟩, q1⟩ : ∃ q, bytesR (packA (⟨.slice (some ⟨gr, 0, none⟩) nr cr, fam, .slice (some ⟨gq, 0, none⟩) nq cq, ts, sq, kd, .slice (some ⟨gv, 0, none⟩) nv cv, row, qual, val⟩ : EntD)) 0 1048 = q := ⟨_, rfl⟩
          obtain ⟨⟨V, P2, E2⟩, q2⟩ : ∃ q, bytesR (packA (⟨.slice (some ⟨gr, 0, none⟩) nr cr, fam, .slice (some ⟨gq, 0, none⟩) nq cq, ts, sq, kd, .slice (some ⟨gv, 0, none⟩) nv cv, row, qual, val⟩ : EntD)) P1 4096 = q := ⟨_, rfl⟩
          have CK2 : Hid (Calls Try.prog 28 #[.slice a11 m11 c11, .int .i64 0] w11 _) := unpack_own (k := 0) (o11.rd (packA_ok HF.out.1).1 (by rw [o11.1]; have := (packA_ok HF.out.1).2; omega)) (by omega) (by have := (packA_ok HF.out.1).2; omega) q1 q2
          have HQ := Lib.hid (And.intro q1 q2)
          clear L10 P10 OV10 BX10 OY10 CK o11 hb11 q1 q2
          go_wp2_with fail
          refine CK2.out.mono ?_
          rintro r w12 ⟨X, PX, EX2, rfl, dx, ov, hb12⟩
          have DX2 := Lib.hid dx
          obtain ⟨ar12, cr12, er⟩ := own_form ov.row.2
          obtain ⟨aq12, cq12, eq⟩ := own_form ov.qual.2
          obtain ⟨av12, cv12, ev⟩ := own_form ov.val.2
          obtain ⟨vr, fam12, vq, ts12, sq12, kd12, vv, row12, qual12, val12⟩ := X
          simp only at er eq ev
          subst er eq ev
          have A := (Below.refl w12.heap.size w12).alloc (Nat.le_refl _) (.cells (EntD.cells (⟨.slice ar12 row12.length cr12, fam12, .slice aq12 qual12.length cq12, ts12, sq12, kd12, .slice av12 val12.length cv12, row12, qual12, val12⟩ : EntD)) 35)
          have hbA := hb12.trans (A.mono hb12.size)
          have L12 := Lib.hid (L11.out.later hbA)
          have P12 := Lib.hid (P11.out.push3 L11.out.bk hbA (ov.later A) (by have := L11.out.gs; omega))
          have OV12 := Lib.hid ((ov.later A).mono (by have := L11.out.gs; omega : g' ≤ _))
          have BX12 := Lib.hid (EBox.new w12 (⟨.slice ar12 row12.length cr12, fam12, .slice aq12 qual12.length cq12, ts12, sq12, kd12, .slice av12 val12.length cv12, row12, qual12, val12⟩ : EntD))
          have OV11b := Lib.hid (OV11.out.later hbA)
          have BX11b := Lib.hid (BX11.out.later hbA)
          clear L11 P11 OV11 BX11 CK2 ov dx hb12 hbA A
          simp only [EntD.cells] at L12 P12 OV12 BX12 OV11b BX11b DX2 ⊢
          obtain ⟨cc0, cc1, cc2, cc3, cc4, cc5, cc6⟩ := BX11b.out.cells7
          simp only at cc0 cc1 cc2 cc3 cc4 cc5 cc6
          have CK : Hid (Calls _ _ _ _ _) := kentry_pend (e := (⟨.slice ar10 row10.length cr10, fam10, .slice aq10 qual10.length cq10, ts10, sq10, kd10, .slice av10 val10.length cv10, row10, qual10, val10⟩ : EntD)) L12.out.bk OV11b.out P12.out (by omega) (by have := L12.out.gs; omega) (Nat.le_refl _)
          simp only [EntD.cells] at CK
          go_wp2_with fail
          refine CK.out.mono ?_
          rintro r w13 ⟨rfl, j13, e13, bk, pe, bel, T⟩
          have L13 := Lib.hid (L12.out.kept T bel bk)
          have P13 := Lib.hid pe
          have E13 := Lib.hid e13
          have OV12c := Lib.hid (T.ownV OV12.out)
          have BX12c := Lib.hid (T.ebox BX12.out)
          clear OV12 BX12 OV11b BX11b
          clear L12 P12 CK bk pe bel T e13 cc0 cc1 cc2 cc3 cc4 cc5 cc6
          obtain ⟨cc0, cc1, cc2, cc3, cc4, cc5, cc6⟩ := BX12c.out.cells7
          simp only at cc0 cc1 cc2 cc3 cc4 cc5 cc6
          have CK : Hid (Calls _ _ _ _ _) := kentry_pend (e := (⟨.slice ar12 row12.length cr12, fam12, .slice aq12 qual12.length cq12, ts12, sq12, kd12, .slice av12 val12.length cv12, row12, qual12, val12⟩ : EntD)) L13.out.bk OV12c.out P13.out (by omega) (by have := L13.out.gs; omega) (Nat.le_refl _)
          simp only [EntD.cells] at CK
          go_wp2_with fail
          refine CK.out.mono ?_
          rintro r w14 ⟨rfl, j14, e14, bk, pe, bel, T⟩
          have L14 := Lib.hid (L13.out.kept T bel bk)
          have P14 := Lib.hid pe
          have E14 := Lib.hid e14
          clear L13 P13 CK bk pe bel T e14 cc0 cc1 cc2 cc3 cc4 cc5 cc6
          go_wp2
          go_roundw
          case rel =>
            refine ⟨u + 1, by omega, by go_num, new ++ (j5 ++ (j6 ++ (j7 ++ (j8 ++ (j13 ++ j14))))), ?_, ?_⟩
            · have e : N + 10 * (u + 1) = nb + 1 + 1 + 1 + 1 + 3 + 3 := by have := HNB.out; omega
              rw [e]
              simpa [List.append_assoc] using L14.out
            · have e : (new ++ (j5 ++ (j6 ++ (j7 ++ (j8 ++ (j13 ++ j14)))))).map Item.xs = new.map Item.xs ++ [keyA (⟨.slice (some ⟨gr, 0, none⟩) nr cr, fam, .slice (some ⟨gq, 0, none⟩) nq cq, ts, sq, kd, .slice (some ⟨gv, 0, none⟩) nv cv, row, qual, val⟩ : EntD), packA (⟨.slice (some ⟨gr, 0, none⟩) nr cr, fam, .slice (some ⟨gq, 0, none⟩) nq cq, ts, sq, kd, .slice (some ⟨gv, 0, none⟩) nv cv, row, qual, val⟩ : EntD), startL row, behindL row, row10, qual10, val10, row12, qual12, val12] := by
                simp only [List.map_append, E5.out, E6.out, E7.out, E8.out, E13.out, E14.out]
                rfl
              rw [e]
              exact HPT.out.step hlu (AnsE.same HF.out.2 ⟨_, _, _, _, _, K, V, P1, E1, P2, E2, DX.out, HQ.out.1, HQ.out.2, DX2.out, rfl⟩)
          case measure => simp [intOf]; omega
        · have hge : (2 : Int) ≤ (u : Int) := by omega
          obtain rfl : u = 2 := by omega
          have HPT := Lib.hid HI.out.2
          have L0 := Lib.hid HI.out.1
          obtain ⟨nb, hnb⟩ : ∃ nb, nb = N + 10 * 2 := ⟨_, rfl⟩
          have hnb46 : nb ≤ 46 := by omega
          have HNB := Lib.hid hnb
          rw [← hnb] at L0
          clear HI hnb
          have P0 : Hid (Pend wr g' (its' ++ new) []) := Pend.nil _ _ _
          have BW : Hid (∀ wx, Below g' wc wx → Rd wx (.slice x0 y0 z0) r0) := fun wx h => HK.out.1.later (HM.out.bel.trans (h.mono (by omega)))
          have CK : Hid (Calls _ _ _ _ _) := parse_own (BW.out _ L0.out.bel) HK.out.2.1
          go_wp2_with fail
          refine CK.out.mono ?_
          rintro r w1 ⟨X, EX, rfl, dx, oe, hb1⟩
          have ov := oe.ownV
          have DX := Lib.hid dx
          obtain ⟨ar1, cr1, er⟩ := own_form ov.row.2
          obtain ⟨aq1, cq1, eq⟩ := own_form ov.qual.2
          obtain ⟨av1, cv1, ev⟩ := own_form ov.val.2
          obtain ⟨vr, fam1, vq, ts1, sq1, kd1, vv, row1, qual1, val1⟩ := X
          simp only at er eq ev
          subst er eq ev
          have A := (Below.refl w1.heap.size w1).alloc (Nat.le_refl _) (.cells (EntD.cells (⟨.slice ar1 row1.length cr1, fam1, .slice aq1 qual1.length cq1, ts1, sq1, kd1, .slice av1 val1.length cv1, row1, qual1, val1⟩ : EntD)) 35)
          have hbA := hb1.trans (A.mono hb1.size)
          have L1 := Lib.hid (L0.out.later hbA)
          have P1 := Lib.hid (P0.out.push3 L0.out.bk hbA (ov.later A) (by have := L0.out.gs; omega))
          have OV1 := Lib.hid ((ov.later A).mono (by have := L0.out.gs; omega : g' ≤ _))
          have BX1 := Lib.hid (EBox.new w1 (⟨.slice ar1 row1.length cr1, fam1, .slice aq1 qual1.length cq1, ts1, sq1, kd1, .slice av1 val1.length cv1, row1, qual1, val1⟩ : EntD))
          clear L0 P0 CK ov oe dx hb1 hbA A
          have CK : Hid (Calls _ _ _ _ _) := unpack_at at_ (BW.out _ L1.out.bel) HK.out.2.1
          simp only [EntD.cells] at L1 P1 OV1 BX1 CK DX ⊢
          go_wp2_with fail
          refine CK.out.mono ?_
          rintro r w2 ⟨X, PX, EX2, rfl, dx, ov, hb2⟩
          have DX2 := Lib.hid dx
          obtain ⟨ar2, cr2, er⟩ := own_form ov.row.2
          obtain ⟨aq2, cq2, eq⟩ := own_form ov.qual.2
          obtain ⟨av2, cv2, ev⟩ := own_form ov.val.2
          obtain ⟨vr, fam2, vq, ts2, sq2, kd2, vv, row2, qual2, val2⟩ := X
          simp only at er eq ev
          subst er eq ev
          have A := (Below.refl w2.heap.size w2).alloc (Nat.le_refl _) (.cells (EntD.cells (⟨.slice ar2 row2.length cr2, fam2, .slice aq2 qual2.length cq2, ts2, sq2, kd2, .slice av2 val2.length cv2, row2, qual2, val2⟩ : EntD)) 35)
          have hbA := hb2.trans (A.mono hb2.size)
          have L2 := Lib.hid (L1.out.later hbA)
          have P2 := Lib.hid (P1.out.push3 L1.out.bk hbA (ov.later A) (by have := L1.out.gs; omega))
          have OV2 := Lib.hid ((ov.later A).mono (by have := L1.out.gs; omega : g' ≤ _))
          have BX2 := Lib.hid (EBox.new w2 (⟨.slice ar2 row2.length cr2, fam2, .slice aq2 qual2.length cq2, ts2, sq2, kd2, .slice av2 val2.length cv2, row2, qual2, val2⟩ : EntD))
          have OV1b := Lib.hid (OV1.out.later hbA)
          have BX1b := Lib.hid (BX1.out.later hbA)
          clear L1 P1 OV1 BX1 CK ov dx hb2 hbA A
          simp only [EntD.cells] at L2 P2 OV2 BX2 OV1b BX1b DX2 ⊢
          obtain ⟨cc0, cc1, cc2, cc3, cc4, cc5, cc6⟩ := BX1b.out.cells7
          simp only at cc0 cc1 cc2 cc3 cc4 cc5 cc6
          have CK : Hid (Calls _ _ _ _ _) := kentry_pend (e := (⟨.slice ar1 row1.length cr1, fam1, .slice aq1 qual1.length cq1, ts1, sq1, kd1, .slice av1 val1.length cv1, row1, qual1, val1⟩ : EntD)) L2.out.bk OV1b.out P2.out (by omega) (by have := L2.out.gs; omega) (Nat.le_refl _)
          simp only [EntD.cells] at CK
          go_wp2_with fail
          refine CK.out.mono ?_
          rintro r w3 ⟨rfl, j3, e3, bk, pe, bel, T⟩
          have L3 := Lib.hid (L2.out.kept T bel bk)
          have P3 := Lib.hid pe
          have E3 := Lib.hid e3
          have OV2c := Lib.hid (T.ownV OV2.out)
          have BX2c := Lib.hid (T.ebox BX2.out)
          clear OV2 BX2 OV1b BX1b
          clear L2 P2 CK bk pe bel T e3 cc0 cc1 cc2 cc3 cc4 cc5 cc6
          obtain ⟨cc0, cc1, cc2, cc3, cc4, cc5, cc6⟩ := BX2c.out.cells7
          simp only at cc0 cc1 cc2 cc3 cc4 cc5 cc6
          have CK : Hid (Calls _ _ _ _ _) := kentry_pend (e := (⟨.slice ar2 row2.length cr2, fam2, .slice aq2 qual2.length cq2, ts2, sq2, kd2, .slice av2 val2.length cv2, row2, qual2, val2⟩ : EntD)) L3.out.bk OV2c.out P3.out (by omega) (by have := L3.out.gs; omega) (Nat.le_refl _)
          simp only [EntD.cells] at CK
          go_wp2_with fail
          refine CK.out.mono ?_
          rintro r w4 ⟨rfl, j4, e4, bk, pe, bel, T⟩
          have L4 := Lib.hid (L3.out.kept T bel bk)
          have P4 := Lib.hid pe
          have E4 := Lib.hid e4
          clear L3 P3 CK bk pe bel T e4 cc0 cc1 cc2 cc3 cc4 cc5 cc6
          have CK : Hid (Calls _ _ _ _ _) := untouched_any L4.out.bk (by omega)
          go_wp2_with fail
          refine CK.out.mono ?_
          rintro r w5 ⟨rfl, hb5⟩
          obtain ⟨nw, hnw⟩ : ∃ nw, nw = new ++ (j3 ++ j4) := ⟨_, rfl⟩
          have AN : Hid (Ans a.cut b.cut r0 at_ (nw.map Item.xs)) := by
            have e : nw.map Item.xs = new.map Item.xs ++ [row1, qual1, val1, row2, qual2, val2] := by
              rw [hnw]
              simp only [List.map_append, E3.out, E4.out]
              rfl
            unfold Hid
            rw [e]
            exact HPT.out.ans ⟨_, _, _, _, _, DX.out, DX2.out, rfl⟩
          have L5 : Hid (Li wc w5 w.heap.size g' gl (nb + 3 + 3) a b D0 D1 (its' ++ nw)) := by
            have h := L4.out.later hb5
            unfold Hid
            rw [hnw]
            simpa [List.append_assoc] using h
          obtain ⟨nn, hnn⟩ : ∃ nn, nn = nb + 3 + 3 := ⟨_, rfl⟩
          rw [← hnn] at L5
          have HNN : Hid (nn = N + 26) := by unfold Hid; have := HNB.out; omega
          clear hnn
          have LN : Hid (nw.length = 26 ∧ N = its'.length) := ⟨by have := AN.out.len; simpa using this, HM.out.bk.len⟩
          clear L4 P4 CK hb5 hnw E3 E4 DX DX2 OV2c BX2c HPT
          rcases HM.out.first L5.out AN.out with ⟨hwas, hfo⟩ | ⟨gf, hwas, hfo⟩
          · have HFO := Lib.hid hfo
            have HWS := Lib.hid HM
            clear HM hfo
            subst hwas
            obtain ⟨aL, cL, gL, al, nl, cl, nf, cW, gW, vL, ak, ck, rfl, k1, k2, k3, k4, k5, k6, k7, k8, k9⟩ := held_at (d := 0) L5.out.bk LN.out.2 HFO.out (by rw [LN.out.1]; omega)
            clear k2 k3 k4 k5 k6 k7 k8 k9
            go_wp2
            go_loopw [34] (fun c wr2 => ∃ d : Nat, d ≤ 26 ∧ c = .int .i64 ((N : Int) + (d : Int)) ∧ Hid (Below w5.heap.size w5 wr2)) (fun c _ => N + 26 - (intOf c).toNat)
            case atStart => exact ⟨0, by omega, by simp, Below.refl _ _⟩
            case round =>
              clear k1
              obtain ⟨d, hd, rfl, hb⟩ := hrel
              by_cases hld : d < 26
              · obtain ⟨aL, cL, gL, al, nl, cl, nf, cW, gW, vL, ak, ck, rfl, k1, k2, k3, k4, k5, k6, k7, k8, xs, rl, rk⟩ := held_at (d := d) (L5.out.later hb.out).bk LN.out.2 (HFO.out.later hb.out) (by rw [LN.out.1]; omega)
                have k3i : (N : Int) + (d : Int) < (nn : Int) := by omega
                have k4i : (d : Int) < (nf : Int) := by omega
                have k0i : (0 : Int) ≤ (N : Int) + (d : Int) := by omega
                have kdi : (0 : Int) ≤ (d : Int) := by omega
                have knt : ((N : Int) + (d : Int)).toNat = N + d := by omega
                have hw1 : IntKind.i64.wrap ((N : Int) + (d : Int) - (N : Int)) = (d : Int) := i64_nat _ d (by omega) (by omega)
                have hw2 : IntKind.i64.wrap (d : Int) = (d : Int) := i64_nat _ d rfl (by omega)
                have HRR := Lib.hid (And.intro rl rk)
                clear rl rk
                have D0 : Below wr.heap.size wr wr.drew := (Below.refl _ _).drew
                have KS : Hid (∀ wx, Below wr.heap.size wr wx → wx.cell? ⟨g', 0, none⟩ = some (.slice (some ⟨gL, 0, none⟩) nn cL) ∧ wx.cell? ⟨g', 1, none⟩ = some (.slice (some ⟨gW, 0, none⟩) nf cW) ∧ wx.cell? ⟨gL, N + d, none⟩ = some (.slice al nl cl) ∧ wx.cell? ⟨gW, d, none⟩ = some (.slice ak nl ck)) := fun wx h => ⟨by rw [h.cell (World.block_lt_of_cell? _ _ k1)]; exact k1, by rw [h.cell (World.block_lt_of_cell? _ _ k6)]; exact k6, by rw [h.cell (World.block_lt_of_cell? _ _ k2)]; exact k2, by rw [h.cell (World.block_lt_of_cell? _ _ k7)]; exact k7⟩
                go_wp2_with fail
                go_region_held3 (fun wx => wx.cell? ⟨g', 0, none⟩ = some (.slice (some ⟨gL, 0, none⟩) nn cL) ∧ wx.cell? ⟨g', 1, none⟩ = some (.slice (some ⟨gW, 0, none⟩) nf cW) ∧ wx.cell? ⟨gL, N + d, none⟩ = some (.slice al nl cl) ∧ wx.cell? ⟨gW, d, none⟩ = some (.slice ak nl ck)) (first | exact KS.out _ D0 | exact KS.out _ DD1)
                  (first | (go_at_call 29; refine (alike_same (HRR.out.1.later D0) (HRR.out.2.later D0)).mono ?_; rintro e1 w1 ⟨rfl, hb1⟩; have DD1 := D0.trans (hb1.mono D0.size)))
                have HB1 := Lib.hid (hb.out.trans (DD1.mono hb.out.size))
                clear KS D0 DD1 hb1 HRR k1 k2 k3 k4 k5 k6 k7 k8
                go_wp2
                go_roundw
                case rel => exact ⟨d + 1, by omega, by go_num, HB1⟩
                case measure => simp [intOf]; omega
              · have hge3 : (nn : Int) ≤ (N : Int) + (d : Int) := by have := HNN.out; omega
                obtain ⟨aL, cL, aW, cW, hbx, _⟩ := (L5.out.later hb.out).bk.box
                have k1 := hbx.l
                have HLN := Lib.hid (Lt.next HWS.out L5.out hb.out AN.out)
                clear hbx
                go_wp2
                go_roundw
                case rel => exact ⟨t + 1, by omega, by go_num, HLN⟩
                case measure => simp [intOf]; omega
          · have HFO := Lib.hid hfo
            have HWS := Lib.hid HM
            clear HM hfo
            subst hwas
            obtain ⟨aL, cL, gL, al, nl, cl, nf, cW, gW, vL, ak, ck, rfl, k1, k2, k3, k4, k5, k6, k7, k8, k9⟩ := held_at (d := 0) L5.out.bk LN.out.2 HFO.out (by rw [LN.out.1]; omega)
            clear k2 k3 k4 k5 k6 k7 k8 k9
            go_wp2
            go_loopw [34] (fun c wr2 => ∃ d : Nat, d ≤ 26 ∧ c = .int .i64 ((N : Int) + (d : Int)) ∧ Hid (Below w5.heap.size w5 wr2)) (fun c _ => N + 26 - (intOf c).toNat)
            case atStart => exact ⟨0, by omega, by simp, Below.refl _ _⟩
            case round =>
              clear k1
              obtain ⟨d, hd, rfl, hb⟩ := hrel
              by_cases hld : d < 26
              · obtain ⟨aL, cL, gL, al, nl, cl, nf, cW, gW, vL, ak, ck, rfl, k1, k2, k3, k4, k5, k6, k7, k8, xs, rl, rk⟩ := held_at (d := d) (L5.out.later hb.out).bk LN.out.2 (HFO.out.later hb.out) (by rw [LN.out.1]; omega)
                have k3i : (N : Int) + (d : Int) < (nn : Int) := by omega
                have k4i : (d : Int) < (nf : Int) := by omega
                have k0i : (0 : Int) ≤ (N : Int) + (d : Int) := by omega
                have kdi : (0 : Int) ≤ (d : Int) := by omega
                have knt : ((N : Int) + (d : Int)).toNat = N + d := by omega
                have hw1 : IntKind.i64.wrap ((N : Int) + (d : Int) - (N : Int)) = (d : Int) := i64_nat _ d (by omega) (by omega)
                have hw2 : IntKind.i64.wrap (d : Int) = (d : Int) := i64_nat _ d rfl (by omega)
                have HRR := Lib.hid (And.intro rl rk)
                clear rl rk
                have D0 : Below wr.heap.size wr wr.drew := (Below.refl _ _).drew
                have KS : Hid (∀ wx, Below wr.heap.size wr wx → wx.cell? ⟨g', 0, none⟩ = some (.slice (some ⟨gL, 0, none⟩) nn cL) ∧ wx.cell? ⟨gf, 1, none⟩ = some (.slice (some ⟨gW, 0, none⟩) nf cW) ∧ wx.cell? ⟨gL, N + d, none⟩ = some (.slice al nl cl) ∧ wx.cell? ⟨gW, d, none⟩ = some (.slice ak nl ck)) := fun wx h => ⟨by rw [h.cell (World.block_lt_of_cell? _ _ k1)]; exact k1, by rw [h.cell (World.block_lt_of_cell? _ _ k6)]; exact k6, by rw [h.cell (World.block_lt_of_cell? _ _ k2)]; exact k2, by rw [h.cell (World.block_lt_of_cell? _ _ k7)]; exact k7⟩
                go_wp2_with fail
                go_region_held3 (fun wx => wx.cell? ⟨g', 0, none⟩ = some (.slice (some ⟨gL, 0, none⟩) nn cL) ∧ wx.cell? ⟨gf, 1, none⟩ = some (.slice (some ⟨gW, 0, none⟩) nf cW) ∧ wx.cell? ⟨gL, N + d, none⟩ = some (.slice al nl cl) ∧ wx.cell? ⟨gW, d, none⟩ = some (.slice ak nl ck)) (first | exact KS.out _ D0 | exact KS.out _ DD1)
                  (first | (go_at_call 29; refine (alike_same (HRR.out.1.later D0) (HRR.out.2.later D0)).mono ?_; rintro e1 w1 ⟨rfl, hb1⟩; have DD1 := D0.trans (hb1.mono D0.size)))
                have HB1 := Lib.hid (hb.out.trans (DD1.mono hb.out.size))
                clear KS D0 DD1 hb1 HRR k1 k2 k3 k4 k5 k6 k7 k8
                go_wp2
                go_roundw
                case rel => exact ⟨d + 1, by omega, by go_num, HB1⟩
                case measure => simp [intOf]; omega
              · have hge3 : (nn : Int) ≤ (N : Int) + (d : Int) := by have := HNN.out; omega
                obtain ⟨aL, cL, aW, cW, hbx, _⟩ := (L5.out.later hb.out).bk.box
                have k1 := hbx.l
                have HLN := Lib.hid (Lt.next HWS.out L5.out hb.out AN.out)
                clear hbx
                go_wp2
                go_roundw
                case rel => exact ⟨t + 1, by omega, by go_num, HLN⟩
                case measure => simp [intOf]; omega
    · have hge : (3 : Int) ≤ (t : Int) := by omega
      obtain rfl : t = 3 := by omega
      have ⟨g0, its0, C, hw, hbs, e0, hC, e1⟩ : ∃ g0 its0 C, u10 = .pointer (some ⟨g0, 0, none⟩) ∧ (∀ wx, Below g wr wx → Bs wx g0 g0 its0.length its0) ∧ its0.map Item.xs = C ++ C ∧ Ans a.cut b.cut r0 at_ C ∧ its.map Item.xs = C := by
        rcases HST.out with ⟨h, _⟩ | ⟨h, _⟩ | ⟨h, _⟩ | ⟨_, h⟩
        · omega
        · omega
        · omega
        · exact h
      have l26 := hC.len
      have li : its.length ≤ 1000 := by
        have := congrArg List.length e1
        simp at this
        omega
      have li0 : its0.length ≤ 1000 := by
        have := congrArg List.length e0
        simp at this
        omega
      have HBS := Lib.hid hbs
      clear hbs e0 hC e1 l26
      subst hw
      go_wp2_with fail
      refine (settle_any (w0 := wr) (w := wr) HB.out (Below.refl _ _) li (by omega)).mono ?_
      rintro r w1 ⟨rfl, bel1, fr1, _⟩
      have HB1 := Lib.hid (HL.out.bel.trans (bel1.mono (by omega)))
      have BS1 := Lib.hid (HBS.out w1 bel1)
      clear bel1 fr1 HL HB HST kl
      go_wp2_with fail
      refine (settled_any BS1.out li0).mono ?_
      rintro r w2 ⟨rfl, rfl⟩
      go_wp2_with fail
      refine (told_any w2).mono ?_
      rintro r w3 ⟨rfl, hb3⟩
      have HB3 := Lib.hid (HB1.out.trans (hb3.mono HB1.out.size))
      clear hb3
      go_wp2
      go_ret
      exact ⟨rfl, HB3.out⟩

end Go.Proofs.Ytjcpjpjccoeakaa

