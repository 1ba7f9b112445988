import Derived.Test.YtnjopfdeapclhaaJ33
import Derived.Lib.Hide
namespace Go.Proofs.Ytnjopfdeapclhaa
open Go.RowKit
set_option linter.unusedVariables false

theorem RowS.at {w : World} {B n x : Nat} {a : Option Addr} {c : Nat} {vs : List Value} (h : RowS w B (.slice a n c) n vs) (hx : x < n) : ∃ g, a = some ⟨g, 0, none⟩ ∧ w.cell? ⟨g, x, none⟩ = vs[x]? := by
  rcases h.2.2.2 with ⟨h1, h2⟩ | ⟨g, cap, cur, h3, h4, h5, h6⟩
  · omega
  · simp only [Value.slice.injEq] at h3
    obtain ⟨rfl, _, _⟩ := h3
    refine ⟨g, rfl, ?_⟩
    exact h.2.2.cellAt x (by have := h.1; omega)
theorem Item.own_slice {w : World} {B : Nat} {v : Value} {xs : List Nat} (h : Own w B v xs.length xs) : ∃ a c, v = .slice a xs.length c := own_form h.2

set_option maxRecDepth 100000 in
set_option maxHeartbeats 4000000 in
/-- All hold what they held. -/
theorem untouched_any {w : World} {B g n : Nat} {its : List Item} (hk : Bk w B g n its) (hn : n ≤ 1000) :
    Calls Try.prog 49 #[.pointer (some ⟨g, 0, none⟩)] w fun r w' => r = .returned (.bool true) ∧ Below w.heap.size w w' := by
  have HK := Lib.hid hk
  obtain ⟨aL, cL, aW, cW, h1, h2, h3, h4⟩ := hk.box
  have HKB := Lib.hid h1
  have HRL := Lib.hid h2
  have HRW := Lib.hid h3
  have hlen : n = its.length := by have := h2.1; simpa using this
  have HLN := Lib.hid hlen
  clear hk h1 h2 h3 h4 hlen
  go_enter Try.func49, Try.ntmps49
  go_wp2
  go_loopw [3] (fun i wr => ∃ t : Nat, t ≤ n ∧ i = .int .i64 (t : Int) ∧ Hid (Below w.heap.size w wr)) (fun i _ => n - (intOf i).toNat)
  case atStart => exact ⟨0, by omega, rfl, Below.refl _ _⟩
  case round =>
    obtain ⟨t, ht, rfl, hb⟩ := hrel
    have kl := (HKB.out.later hb.out).l
    have kw := (HKB.out.later hb.out).w
    by_cases hlt : t < n
    · have hlt2 : (t : Int) < (n : Int) := by omega
      have ht0 : (0 : Int) ≤ (t : Int) := by omega
      have hti : t < its.length := by have := HLN.out; omega
      obtain ⟨gL, rfl, cl⟩ := (HRL.out.later hb.out).at hlt
      obtain ⟨gW, rfl, cw⟩ := (HRW.out.later hb.out).at hlt
      obtain ⟨ol, ok, hby, hl⟩ := HK.out.own its[t] (List.getElem_mem hti)
      have el : (its.map Item.l)[t]? = some its[t].l := by simp [hti]
      have ek : (its.map Item.k)[t]? = some its[t].k := by simp [hti]
      rw [el] at cl
      rw [ek] at cw
      have RL := (ol.rd hby (by omega)).later hb.out
      have RK := (ok.rd hby (by omega)).later hb.out
      obtain ⟨al, kl2, fl⟩ := own_form ol.2
      obtain ⟨ak, kk2, fk⟩ := own_form ok.2
      rw [fl] at cl RL
      rw [fk] at cw RK
      have HRR := Lib.hid (And.intro RL RK)
      clear RL RK ol ok hl el ek fl fk
      obtain ⟨nx, hnx⟩ : ∃ q, q = its[t].xs.length := ⟨_, rfl⟩
      rw [← hnx] at cl cw HRR
      have D0 : Below wr.heap.size wr wr.drew := (Below.refl _ _).drew
      have KS : Hid (∀ wx, Below wr.heap.size wr wx → wx.cell? ⟨g, 0, none⟩ = some (.slice (some ⟨gL, 0, none⟩) n cL) ∧ wx.cell? ⟨g, 1, none⟩ = some (.slice (some ⟨gW, 0, none⟩) n cW) ∧ wx.cell? ⟨gL, t, none⟩ = some (.slice al nx kl2) ∧ wx.cell? ⟨gW, t, none⟩ = some (.slice ak nx kk2)) := fun wx h => ⟨by rw [h.cell (World.block_lt_of_cell? _ _ kl)]; exact kl, by rw [h.cell (World.block_lt_of_cell? _ _ kw)]; exact kw, by rw [h.cell (World.block_lt_of_cell? _ _ cl)]; exact cl, by rw [h.cell (World.block_lt_of_cell? _ _ cw)]; exact cw⟩
      clear hnx
      go_wp2_with fail
      go_region_held3 (fun wx => wx.cell? ⟨g, 0, none⟩ = some (.slice (some ⟨gL, 0, none⟩) n cL) ∧ wx.cell? ⟨g, 1, none⟩ = some (.slice (some ⟨gW, 0, none⟩) n cW) ∧ wx.cell? ⟨gL, t, none⟩ = some (.slice al nx kl2) ∧ wx.cell? ⟨gW, t, none⟩ = some (.slice ak nx kk2)) (first | exact KS.out _ D0 | exact KS.out _ DD1)
        (first | (go_at_call 76; refine (alike_same (HRR.out.1.later D0) (HRR.out.2.later D0)).mono ?_; rintro e1 w1 ⟨rfl, hb1⟩; have DD1 := D0.trans (hb1.mono D0.size)))
      have HB1 := Lib.hid (hb.out.trans (DD1.mono hb.out.size))
      clear KS D0 DD1 hb1 HRR kl kw cl cw
      go_wp2
      go_roundw
      case rel => exact ⟨t + 1, by omega, by go_num, HB1⟩
      case measure => simp [intOf]; omega
    · have hge : (n : Int) ≤ (t : Int) := by omega
      go_wp2
      go_ret
      exact ⟨rfl, hb.out⟩

end Go.Proofs.Ytnjopfdeapclhaa

namespace Go.Proofs.Ytnjopfdeapclhaa
open Go.RowKit
set_option linter.unusedVariables false

set_option maxRecDepth 100000 in
set_option maxHeartbeats 4000000 in
/-- An entry's three byte strings, kept. -/
theorem kentry_any {w : World} {B g n : Nat} {its : List Item} {e : EntD} (hk : Bk w B g n its) (ho : OwnV w B e) (hap : ∀ p ∈ its, (AP p.l e.vr ∧ AP p.k e.vr) ∧ (AP p.l e.vq ∧ AP p.k e.vq) ∧ (AP p.l e.vv ∧ AP p.k e.vv)) (hn : n ≤ 900) (hB : B ≤ w.heap.size) :
    Calls Try.prog 24 #[.pointer (some ⟨g, 0, none⟩), .agg e.cells] w fun r w' => r = .returned (.tuple #[]) ∧ ∃ u1 u2 u3, Bk w' B g (n + 3) (its ++ [⟨e.vr, u1, e.row⟩, ⟨e.vq, u2, e.qual⟩, ⟨e.vv, u3, e.val⟩]) ∧ (∀ x, u1.ownBlock = some x ∨ u2.ownBlock = some x ∨ u3.ownBlock = some x → w.heap.size ≤ x) ∧ w.heap.size ≤ w'.heap.size ∧ w'.os = w.os ∧ w'.tape = w.tape ∧ w'.output = w.output ∧ (∀ v m' ys B', Own w B' v m' ys → Own w' B' v m' ys) ∧ (∀ i, i < w.heap.size → i < B → w'.heap[i]? = w.heap[i]? ∨ i = g) ∧ (∀ q d, EBox w q d → EBox w' q d) ∧ FrT w w' := by
  have A1 := (Below.refl w.heap.size w).alloc (Nat.le_refl _) (.cells e.cells 30)
  have bx := EBox.new w e
  have HK := Lib.hid (hk.later A1)
  have HO := Lib.hid (ho.later A1)
  have HX := Lib.hid bx
  have HAP := Lib.hid hap
  have HA := Lib.hid (And.intro A1 (And.intro ho.br (And.intro ho.bq ho.bv)))
  have HAE := Lib.hid (And.intro ho.arq (And.intro ho.arv ho.aqv))
  obtain ⟨ar, cr, er⟩ := own_form ho.row.2
  obtain ⟨aq, cq, eq⟩ := own_form ho.qual.2
  obtain ⟨av, cv, ev⟩ := own_form ho.val.2
  clear hk ho bx hap A1
  obtain ⟨vr, fam, vq, ts, sq, kd, vv, row, qual, val⟩ := e
  simp only at er eq ev
  subst er eq ev
  simp only [EntD.cells] at HK HO HX HA HAP HAE ⊢
  obtain ⟨W, hW⟩ : ∃ W, W = w.alloc (.cells #[.slice ar row.length cr, .int .i64 fam, .slice aq qual.length cq, .int .i64 ts, .int .i64 sq, .int .i64 kd, .slice av val.length cv] 30) := ⟨_, rfl⟩
  rw [← hW] at HK HO HX HA
  have hWs : w.heap.size ≤ W.heap.size := HA.out.1.size
  have x0 := HX.out.vr
  simp only at x0
  have KR : Hid (Calls _ _ _ _ _) := keep_bk HK.out HO.out.row (fun p hp => (HAP.out p hp).1) HA.out.2.1.1 (by have := HA.out.2.1.2; simp only at this ⊢; omega) (by omega) (by omega)
  simp only at KR
  go_enter Try.func24, Try.ntmps24
  go_wp2_with fail
  rw [← hW]
  clear hW
  refine KR.out.mono ?_
  rintro r1 w1 ⟨rfl, u1, b1, n1, z1, p1, p2, p3, O1, i1, E1, T1⟩
  have HX1 := Lib.hid (E1 _ _ HX.out)
  have x2 := HX1.out.vq
  simp only at x2
  have KQ : Hid (Calls _ _ _ _ _) := keep_bk b1 (O1 _ _ _ _ HO.out.qual) (fun p hp => by
    rcases List.mem_append.1 hp with hp | hp
    · exact (HAP.out p hp).2.1
    · simp at hp
      subst hp
      exact ⟨HAE.out.1, fun x hx hy => by have h1 := n1 x hx; have h2 := (HO.out.qual.2.lt x hy).2; omega⟩) HA.out.2.2.1.1 (by have := HA.out.2.2.1.2; simp only at this ⊢; omega) (by omega) (by omega)
  simp only at KQ
  have H1 := Lib.hid (And.intro n1 (And.intro z1 (And.intro p1 (And.intro p2 (And.intro p3 (And.intro O1 (And.intro i1 (And.intro E1 T1))))))))
  clear b1 n1 z1 p1 p2 p3 O1 i1 E1 T1 KR x0
  go_wp2_with fail
  refine KQ.out.mono ?_
  rintro r2 w2 ⟨rfl, u2, b2, n2, z2, p1, p2, p3, O2, i2, E2, T2⟩
  have HX2 := Lib.hid (E2 _ _ HX1.out)
  have x6 := HX2.out.vv
  simp only at x6
  have KV : Hid (Calls _ _ _ _ _) := keep_bk b2 (O2 _ _ _ _ (H1.out.2.2.2.2.2.1 _ _ _ _ HO.out.val)) (fun p hp => by
    have hz1 := H1.out.2.1
    rcases List.mem_append.1 hp with hp | hp
    · rcases List.mem_append.1 hp with hp | hp
      · exact (HAP.out p hp).2.2
      · simp at hp
        subst hp
        exact ⟨HAE.out.2.1, fun x hx hy => by have h1 := H1.out.1 x hx; have h2 := (HO.out.val.2.lt x hy).2; omega⟩
    · simp at hp
      subst hp
      exact ⟨HAE.out.2.2, fun x hx hy => by have h1 := n2 x hx; have h2 := (HO.out.val.2.lt x hy).2; omega⟩) HA.out.2.2.2.1 (by have := HA.out.2.2.2.2; simp only at this ⊢; omega) (by omega) (by have := H1.out.2.1; omega)
  simp only at KV
  have H2 := Lib.hid (And.intro n2 (And.intro z2 (And.intro p1 (And.intro p2 (And.intro p3 (And.intro O2 (And.intro i2 (And.intro E2 T2))))))))
  clear b2 n2 z2 p1 p2 p3 O2 i2 E2 T2 KQ x2
  go_wp2_with fail
  refine KV.out.mono ?_
  rintro r3 w3 ⟨rfl, u3, b3, n3, z3, p1, p2, p3, O3, i3, E3, T3⟩
  go_wp2
  refine bodyPost_end (v := .tuple #[]) (by first | rfl | kernel_rfl) rfl ?_
  have A := HA.out.1
  obtain ⟨m1, y1, q11, q12, q13, Q1, j1, F1, S1⟩ := H1.out
  obtain ⟨m2, y2, q21, q22, q23, Q2, j2, F2, S2⟩ := H2.out
  refine ⟨rfl, u1, u2, u3, by simpa using b3, fun x hx => ?_, by omega, p1.trans (q21.trans (q11.trans A.os)), p2.trans (q22.trans (q12.trans A.tape)), p3.trans (q23.trans (q13.trans A.output)), fun v m' ys B' h => O3 _ _ _ _ (Q2 _ _ _ _ (Q1 _ _ _ _ (h.later A))), fun i hi hiB => ?_, fun q d hq => E3 _ _ (F2 _ _ (F1 _ _ (hq.later A))), (((FrT.of_below A).trans S1).trans S2).trans T3⟩
  · rcases hx with h | h | h
    · have := m1 x h; omega
    · have := m2 x h; omega
    · have := n3 x h; omega
  · by_cases hg : i = g
    · exact .inr hg
    · refine .inl ?_
      rcases i3 i (by omega) hiB with h3 | h3
      · rcases j2 i (by omega) hiB with h2 | h2
        · rcases j1 i (by omega) hiB with h1 | h1
          · rw [h3, h2, h1, A.block i hi]
          · exact absurd h1 hg
        · exact absurd h2 hg
      · exact absurd h3 hg

end Go.Proofs.Ytnjopfdeapclhaa

namespace Go.Proofs.Ytnjopfdeapclhaa
open Go.RowKit
set_option linter.unusedVariables false

/-- The mark of the item of that number. -/
def mkOf (j : Nat) : Nat := 1 + j % 250
theorem mkOf_lt (j : Nat) : mkOf j < 256 := by unfold mkOf; omega
/-- What the items hold now. -/
def Now (w : World) (B : Nat) (its : List Item) (cur : Nat → List Nat) : Prop := ∀ j p, its[j]? = some p → Own w B p.l p.xs.length (cur j)
theorem ap_ne {its : List Item} {i j : Nat} {p q : Item} (h : (its.map Item.l).Pairwise AP) (hne : i ≠ j) (hp : its[i]? = some p) (hq : its[j]? = some q) : AP p.l q.l := by
  obtain ⟨hi, rfl⟩ := List.getElem?_eq_some_iff.1 hp
  obtain ⟨hj, rfl⟩ := List.getElem?_eq_some_iff.1 hq
  rw [List.pairwise_iff_getElem] at h
  rcases Nat.lt_or_gt_of_ne hne with k | k
  · have := h i j (by simpa using hi) (by simpa using hj) k
    simpa using this
  · have := h j i (by simpa using hj) (by simpa using hi) k
    simpa using this.symm
theorem Now.store {w : World} {B : Nat} {its : List Item} {cur : Nat → List Nat} (h : Now w B its cur) (ap : (its.map Item.l).Pairwise AP) {t q g0 c0 mk : Nat} {p : Item} (hp : its[t]? = some p) (hl : p.l = .slice (some ⟨g0, 0, none⟩) p.xs.length c0) :
    Now (w.setCell ⟨g0, q, none⟩ (.int .u8 (mk : Int))) B its (fun j => if j = t then (cur t).set q mk else cur j) := by
  intro j x hx
  by_cases e : j = t
  · subst e
    rw [hp] at hx
    obtain rfl : p = x := by simpa using hx
    have o := h j p hp
    rw [hl] at o ⊢
    have st := o.2.stored q (.int .u8 (mk : Int))
    refine ⟨by simpa using o.1, ?_⟩
    have e : bv ((cur j).set q mk) = (bv (cur j)).set q (.int .u8 (mk : Int)) := by simp [bv, List.map_set]
    simp only [if_true, e]
    exact st.1
  · simp only [if_neg e]
    refine (h j x hx).far (set_grown w g0 q _) (fun g hg hy => ?_)
    cases hg
    exact ap_ne ap e hx hp g0 hy (by rw [hl]; rfl)
/-- Nothing has changed but what the items lie in. -/
structure Fr (w w' : World) (its : List Item) : Prop where
  os : w'.os = w.os
  tape : w'.tape = w.tape
  output : w'.output = w.output
  size : w.heap.size ≤ w'.heap.size
  block : ∀ i, i < w.heap.size → (∀ p ∈ its, p.l.ownBlock ≠ some i) → w'.heap[i]? = w.heap[i]?
theorem Fr.refl (w : World) (its : List Item) : Fr w w its := ⟨rfl, rfl, rfl, Nat.le_refl _, fun _ _ _ => rfl⟩
theorem Fr.grow {w w1 w2 : World} {its : List Item} {o : Option Nat} (h : Fr w w1 its) (k : w1.grownBy w2 o) (ho : ∀ g, o = some g → w.heap.size ≤ g ∨ ∃ p ∈ its, p.l.ownBlock = some g) : Fr w w2 its :=
  ⟨k.os.trans h.os, k.tape.trans h.tape, k.output.trans h.output, Nat.le_trans h.size k.size, fun i hi hne => by
    rw [k.block i (Nat.lt_of_lt_of_le hi h.size) ?_, h.block i hi hne]
    intro e
    rcases ho i e.symm with h1 | ⟨p, hp, h1⟩
    · omega
    · exact hne p hp h1⟩
theorem Fr.later {w w1 w2 : World} {its : List Item} (h : Fr w w1 its) (k : Below w1.heap.size w1 w2) : Fr w w2 its := h.grow (grown_below k none) (fun _ e => by cases e)
theorem Fr.below {w w' : World} {its : List Item} {B : Nat} (h : Fr w w' its) (ho : ∀ p ∈ its, ∀ g, p.l.ownBlock = some g → B ≤ g) (hB : B ≤ w.heap.size) : Below B w w' :=
  ⟨h.os, h.tape, h.output, h.size, fun i hi => h.block i (by omega) (fun p hp e => by have := ho p hp i e; omega)⟩
theorem Fr.kbox {w w' : World} {its : List Item} {B g : Nat} {vL vW : Value} {ys : Item → List Nat} (h : Fr w w' its) (k : KBox w g vL vW) (ho : ∀ p ∈ its, Own w B p.l (ys p).length (ys p)) : KBox w' g vL vW := by
  unfold KBox at *
  rw [h.block g (Array.getElem?_eq_some_iff.1 k).1 (fun p hp e => kbox_own k (ho p hp) e rfl)]
  exact k
theorem Fr.rows {w w' : World} {its : List Item} {B B' n : Nat} {v : Value} {vs : List Value} {ys : Item → List Nat} (h : Fr w w' its) (k : RowS w B v n vs) (ho : ∀ p ∈ its, Own w B' p.l (ys p).length (ys p)) : RowS w' B v n vs := by
  refine ⟨k.1, k.2.1, k.2.2.1, ?_⟩
  rcases k.2.2.2 with h2 | ⟨g, cap, cur, h3, h4, h5, h6⟩
  · exact .inl h2
  · refine .inr ⟨g, cap, cur, h3, h4, ?_, h6⟩
    rw [h.block g (Array.getElem?_eq_some_iff.1 h5).1 (fun p hp e => row_own k (ho p hp) (by rw [h3]; rfl) e)]
    exact h5
theorem Fr.own {w w' : World} {its : List Item} {B m : Nat} {v : Value} {xs : List Nat} (h : Fr w w' its) (k : Own w B v m xs) (ho : ∀ p ∈ its, AP p.l v) : Own w' B v m xs :=
  k.same_block (fun g hg => h.block g (k.2.lt g hg).2 (fun p hp e => ho p hp g e hg))
theorem Rd.far {w w' : World} {v : Value} {xs : List Nat} {o : Option Nat} (h : Rd w v xs) (k : w.grownBy w' o) (hne : ∀ g, o = some g → v.ownBlock ≠ some g) : Rd w' v xs := by
  obtain ⟨h1, a, cap, rfl, h3, h4, h5, h6, h7⟩ := h
  refine ⟨h1, a, cap, rfl, h3, h4, h5, h6, ?_⟩
  rcases h7 with h7 | ⟨b, off, rfl, hc⟩
  · exact .inl h7
  · refine .inr ⟨b, off, rfl, fun i hi => k.cell (hc i hi) (fun e => hne b e.symm rfl)⟩
/-- A settled book: the items hold their marks, the copies what they held. -/
structure Bs (w : World) (B g n : Nat) (its : List Item) : Prop where
  box : ∃ aL cL aW cW, KBox w g (.slice aL n cL) (.slice aW n cW) ∧ RowS w B (.slice aL n cL) n (its.map Item.l) ∧ RowS w B (.slice aW n cW) n (its.map Item.k)
  own : ∀ p ∈ its, Own w B p.k p.xs.length p.xs ∧ Bys p.xs ∧ p.xs.length ≤ 100000
  marks : ∀ j p, its[j]? = some p → Rd w p.l (List.replicate p.xs.length (mkOf j))
theorem Bs.later {w w' : World} {B g n : Nat} {its : List Item} (h : Bs w B g n its) (hb : Below w.heap.size w w') : Bs w' B g n its := by
  obtain ⟨⟨aL, cL, aW, cW, h1, h2, h3⟩, h5, h6⟩ := h
  exact ⟨⟨aL, cL, aW, cW, h1.later hb, h2.later hb, h3.later hb⟩, fun p hp => ⟨(h5 p hp).1.later hb, (h5 p hp).2⟩, fun j p hp => (h6 j p hp).later hb⟩
def xsAt (its : List Item) (j : Nat) : List Nat := (its[j]?.map Item.xs).getD []
theorem xsAt_eq {its : List Item} {j : Nat} {p : Item} (h : its[j]? = some p) : xsAt its j = p.xs := by simp [xsAt, h]
theorem Now.congr {w : World} {B : Nat} {its : List Item} {f f' : Nat → List Nat} (h : Now w B its f) (e : ∀ j, f j = f' j) : Now w B its f' := fun j p hp => by rw [← e j]; exact h j p hp
/-- All ahead of t are written full. -/
def fillTo (its : List Item) (t : Nat) (j : Nat) : List Nat := if j < t then List.replicate (xsAt its j).length (mkOf j) else xsAt its j
/-- .. and q bytes of that of number t. -/
def fillIn (its : List Item) (t q : Nat) (j : Nat) : List Nat := if j = t then List.replicate q (mkOf t) ++ (xsAt its t).drop q else fillTo its t j
theorem fillIn_zero (its : List Item) (t j : Nat) : fillTo its t j = fillIn its t 0 j := by
  unfold fillIn fillTo
  by_cases h : j = t
  · subst h; simp
  · simp [h]
theorem fillIn_next {its : List Item} {t q : Nat} (hq : q < (xsAt its t).length) (j : Nat) : (if j = t then (fillIn its t q t).set q (mkOf t) else fillIn its t q j) = fillIn its t (q + 1) j := by
  unfold fillIn
  by_cases h : j = t
  · subst h
    simp only [if_true]
    exact fill_set hq
  · simp [h]
theorem fillIn_end (its : List Item) (t j : Nat) : fillIn its t (xsAt its t).length j = fillTo its (t + 1) j := by
  unfold fillIn fillTo
  by_cases h : j = t
  · subst h; simp
  · by_cases h2 : j < t
    · simp [h, h2, Nat.lt_succ_of_lt h2]
    · have h3 : ¬ j < t + 1 := by omega
      simp [h, h2, h3]
theorem fillTo_all {its : List Item} {n j : Nat} (hn : n = its.length) {p : Item} (hp : its[j]? = some p) : fillTo its n j = List.replicate p.xs.length (mkOf j) := by
  obtain ⟨hj, _⟩ := List.getElem?_eq_some_iff.1 hp
  unfold fillTo
  rw [if_pos (by omega), xsAt_eq hp]
theorem Now.start {w : World} {B g n : Nat} {its : List Item} (h : Bk w B g n its) : Now w B its (fillTo its 0) := fun j p hp => by
  have o := (h.own p (List.mem_of_getElem? hp)).1
  have e : fillTo its 0 j = p.xs := by unfold fillTo; simp [xsAt_eq hp]
  rw [e]
  exact o
theorem Now.later {w w' : World} {B : Nat} {its : List Item} {f : Nat → List Nat} (h : Now w B its f) (hb : Below w.heap.size w w') : Now w' B its f := fun j p hp => (h j p hp).later hb
end Go.Proofs.Ytnjopfdeapclhaa

namespace Go.Proofs.Ytnjopfdeapclhaa
open Go.RowKit
set_option linter.unusedVariables false

theorem FrT.own {w w' : World} {B m : Nat} {v : Value} {xs : List Nat} (h : FrT w w') (k : Own w B v m xs) : Own w' B v m xs := by
  refine ⟨k.1, k.2.1, ?_⟩
  rcases k.2.2 with h2 | ⟨g, cap, cur, h3, h4, h5, h6⟩
  · exact .inl h2
  · exact .inr ⟨g, cap, cur, h3, h4, by rw [h g _ _ _ h5 (by decide) (by decide)]; exact h5, h6⟩
theorem FrT.ebox {w w' : World} {q : Nat} {d : EntD} (h : FrT w w') (k : EBox w q d) : EBox w' q d := by
  unfold EBox at *
  rw [h q _ _ _ k (by decide) (by decide)]
  exact k
theorem FrT.ownV {w w' : World} {B : Nat} {d : EntD} (h : FrT w w') (k : OwnV w B d) : OwnV w' B d := ⟨k.br, k.bq, k.bv, h.own k.row, h.own k.qual, h.own k.val, k.arq, k.arv, k.aqv⟩
theorem own_eq {w : World} {B m n c : Nat} {a : Option Addr} {xs : List Nat} (h : Own w B (.slice a m c) n xs) : m = n := by
  rcases h.2.2 with ⟨h1, h2⟩ | ⟨g, cap, cur, h1, _⟩
  · simp only [Value.slice.injEq] at h1
    omega
  · simp only [Value.slice.injEq] at h1
    exact h1.2.1
/-- No item shares its memory with v. -/
def Hap (its : List Item) (v : Value) : Prop := ∀ p ∈ its, AP p.l v ∧ AP p.k v
theorem Hap.new {w : World} {B g n : Nat} {its : List Item} {v : Value} (h : Bk w B g n its) (hv : ∀ x, v.ownBlock = some x → w.heap.size ≤ x) : Hap its v := fun p hp => ⟨fun x hx hy => by have := ((h.own p hp).1.2.lt x hx).2; have := hv x hy; omega, fun x hx hy => by have := ((h.own p hp).2.1.2.lt x hx).2; have := hv x hy; omega⟩
theorem Hap.add {its : List Item} {v a u : Value} {xs : List Nat} {h : Nat} (hp : Hap its v) (ha : AP a v) (hu : ∀ x, u.ownBlock = some x → h ≤ x) (hv : ∀ x, v.ownBlock = some x → x < h) : Hap (its ++ [⟨a, u, xs⟩]) v := fun p hq => by
  rcases List.mem_append.1 hq with hq | hq
  · exact hp p hq
  · simp at hq
    subst hq
    exact ⟨ha, fun x hx hy => by have := hu x hx; have := hv x hy; omega⟩
/-- What is yet to be kept: each owns its bytes, all apart, and apart from the items. -/
structure Pend (w : World) (B : Nat) (its : List Item) (vs : List (Value × List Nat)) : Prop where
  own : ∀ p ∈ vs, Own w B p.1 p.2.length p.2 ∧ Bys p.2 ∧ p.2.length ≤ 100000
  ap : (vs.map Prod.fst).Pairwise AP
  hap : ∀ p ∈ vs, Hap its p.1
theorem Pend.nil (w : World) (B : Nat) (its : List Item) : Pend w B its [] := ⟨by simp, by simp, by simp⟩
theorem Pend.later {w w' : World} {B : Nat} {its : List Item} {vs : List (Value × List Nat)} (h : Pend w B its vs) (hb : Below w.heap.size w w') : Pend w' B its vs := ⟨fun p hp => ⟨(h.own p hp).1.later hb, (h.own p hp).2⟩, h.ap, h.hap⟩
theorem Pend.frt {w w' : World} {B : Nat} {its : List Item} {vs : List (Value × List Nat)} (h : Pend w B its vs) (hb : FrT w w') : Pend w' B its vs := ⟨fun p hp => ⟨hb.own (h.own p hp).1, (h.own p hp).2⟩, h.ap, h.hap⟩
theorem Pend.push {w w' : World} {B g n : Nat} {its : List Item} {vs : List (Value × List Nat)} {v : Value} {xs : List Nat} (h : Pend w B its vs) (hk : Bk w B g n its) (hb : Below w.heap.size w w') (ho : Own w' w.heap.size v xs.length xs) (hB : B ≤ w.heap.size) (hby : Bys xs) (hl : xs.length ≤ 100000) : Pend w' B its (vs ++ [(v, xs)]) := by
  have hv : ∀ x, v.ownBlock = some x → w.heap.size ≤ x := fun x hx => (ho.2.lt x hx).1
  refine ⟨fun p hp => ?_, ?_, fun p hp => ?_⟩
  · rcases List.mem_append.1 hp with hp | hp
    · exact (h.later hb).own p hp
    · simp at hp
      subst hp
      exact ⟨ho.mono hB, hby, hl⟩
  · rw [List.map_append, List.pairwise_append]
    refine ⟨h.ap, by simp, fun u hu y hy => ?_⟩
    simp at hy
    subst hy
    obtain ⟨p, hp, rfl⟩ := List.mem_map.1 hu
    exact fun x hx hy => by have := ((h.own p hp).1.2.lt x hx).2; have := hv x hy; omega
  · rcases List.mem_append.1 hp with hp | hp
    · exact h.hap p hp
    · simp at hp
      subst hp
      exact Hap.new hk hv
theorem Pend.push3 {w w' : World} {B g n : Nat} {its : List Item} {vs : List (Value × List Nat)} {D : EntD} (h : Pend w B its vs) (hk : Bk w B g n its) (hb : Below w.heap.size w w') (ho : OwnV w' w.heap.size D) (hB : B ≤ w.heap.size) : Pend w' B its (vs ++ [(D.vr, D.row), (D.vq, D.qual), (D.vv, D.val)]) := by
  have h1 := fun x hx => (ho.row.2.lt x hx).1
  have h2 := fun x hx => (ho.qual.2.lt x hx).1
  have h3 := fun x hx => (ho.val.2.lt x hx).1
  have far : ∀ v, (∀ x, v.ownBlock = some x → w.heap.size ≤ x) → ∀ p ∈ vs, AP p.1 v := fun v hv p hp x hx hy => by have := ((h.own p hp).1.2.lt x hx).2; have := hv x hy; omega
  refine ⟨fun p hp => ?_, ?_, fun p hp => ?_⟩
  · rcases List.mem_append.1 hp with hp | hp
    · exact (h.later hb).own p hp
    · simp at hp
      rcases hp with rfl | rfl | rfl
      · exact ⟨ho.row.mono hB, ho.br.1, by have := ho.br.2; simp only at *; omega⟩
      · exact ⟨ho.qual.mono hB, ho.bq.1, by have := ho.bq.2; simp only at *; omega⟩
      · exact ⟨ho.val.mono hB, ho.bv.1, by have := ho.bv.2; simp only at *; omega⟩
  · rw [List.map_append, List.pairwise_append]
    refine ⟨h.ap, ?_, fun u hu y hy => ?_⟩
    · simp only [List.map_cons, List.map_nil, List.pairwise_cons, List.mem_cons, List.not_mem_nil, or_false, forall_eq_or_imp, forall_eq, List.Pairwise.nil, and_true]
      exact ⟨⟨ho.arq, ho.arv⟩, ho.aqv, by simp⟩
    · obtain ⟨p, hp, rfl⟩ := List.mem_map.1 hu
      simp at hy
      rcases hy with rfl | rfl | rfl
      · exact far _ h1 p hp
      · exact far _ h2 p hp
      · exact far _ h3 p hp
  · rcases List.mem_append.1 hp with hp | hp
    · exact h.hap p hp
    · simp at hp
      rcases hp with rfl | rfl | rfl
      · exact Hap.new hk h1
      · exact Hap.new hk h2
      · exact Hap.new hk h3
theorem keep_pend {w : World} {g B n m c : Nat} {a : Option Addr} {its : List Item} {xs : List Nat} {vs : List (Value × List Nat)} (hk : Bk w B g n its) (hp : Pend w B its ((.slice a m c, xs) :: vs)) (hn : n ≤ 1000) (hB : B ≤ w.heap.size) (hg : B ≤ g) :
    Calls Try.prog 48 #[.pointer (some ⟨g, 0, none⟩), .slice a m c] w fun r w' => r = .returned (.tuple #[]) ∧ ∃ js : List Item, js.map Item.xs = [xs] ∧ Bk w' B g (n + 1) (its ++ js) ∧ Pend w' B (its ++ js) vs ∧ Below B w w' ∧ FrT w w' := by
  obtain ⟨o, hby, hl⟩ := hp.own (.slice a m c, xs) (by simp)
  simp only at o hby hl
  have hm := own_eq o
  subst hm
  refine (keep_bk hk o (hp.hap (.slice a xs.length c, xs) (by simp)) hby hl hn hB).mono ?_
  rintro r w' ⟨rfl, u, b, nu, sz, e1, e2, e3, OW, ib, EB, T⟩
  have pw := hp.ap
  simp only [List.map_cons, List.pairwise_cons] at pw
  refine ⟨rfl, [⟨.slice a xs.length c, u, xs⟩], rfl, b, ⟨fun p hq => ⟨T.own (hp.own p (by simp [hq])).1, (hp.own p (by simp [hq])).2⟩, pw.2, fun p hq => ?_⟩, ⟨e1, e2, e3, sz, fun i hi => ?_⟩, T⟩
  · exact (hp.hap p (by simp [hq])).add (pw.1 _ (List.mem_map.2 ⟨p, hq, rfl⟩)) nu (fun x hx => ((hp.own p (by simp [hq])).1.2.lt x hx).2)
  · rcases ib i (by omega) hi with h | h
    · exact h
    · omega
theorem kentry_pend {w : World} {g B n : Nat} {its : List Item} {e : EntD} {vs : List (Value × List Nat)} (hk : Bk w B g n its) (ho : OwnV w B e) (hp : Pend w B its ((e.vr, e.row) :: (e.vq, e.qual) :: (e.vv, e.val) :: vs)) (hn : n ≤ 900) (hB : B ≤ w.heap.size) (hg : B ≤ g) :
    Calls Try.prog 24 #[.pointer (some ⟨g, 0, none⟩), .agg e.cells] w fun r w' => r = .returned (.tuple #[]) ∧ ∃ js : List Item, js.map Item.xs = [e.row, e.qual, e.val] ∧ Bk w' B g (n + 3) (its ++ js) ∧ Pend w' B (its ++ js) vs ∧ Below B w w' ∧ FrT w w' := by
  have p1 := hp.hap (e.vr, e.row) (by simp)
  have p2 := hp.hap (e.vq, e.qual) (by simp)
  have p3 := hp.hap (e.vv, e.val) (by simp)
  refine (kentry_any hk ho (fun p hq => ⟨p1 p hq, p2 p hq, p3 p hq⟩) hn hB).mono ?_
  rintro r w' ⟨rfl, u1, u2, u3, b, nu, sz, e1, e2, e3, OW, ib, EB, T⟩
  have pw := hp.ap
  simp only [List.map_cons, List.pairwise_cons] at pw
  refine ⟨rfl, [⟨e.vr, u1, e.row⟩, ⟨e.vq, u2, e.qual⟩, ⟨e.vv, u3, e.val⟩], rfl, b, ⟨fun p hq => ⟨T.own (hp.own p (by simp [hq])).1, (hp.own p (by simp [hq])).2⟩, pw.2.2.2, fun p hq => ?_⟩, ⟨e1, e2, e3, sz, fun i hi => ?_⟩, T⟩
  · have hlt : ∀ x, p.1.ownBlock = some x → x < w.heap.size := fun x hx => ((hp.own p (by simp [hq])).1.2.lt x hx).2
    have hm : p.1 ∈ vs.map Prod.fst := List.mem_map.2 ⟨p, hq, rfl⟩
    have a1 := (hp.hap p (by simp [hq])).add (xs := e.row) (pw.1 _ (by simp [hm])) (fun x hx => nu x (.inl hx)) hlt
    have a2 := a1.add (xs := e.qual) (pw.2.1 _ (by simp [hm])) (fun x hx => nu x (.inr (.inl hx))) hlt
    have a3 := a2.add (xs := e.val) (pw.2.2.1 _ hm) (fun x hx => nu x (.inr (.inr hx))) hlt
    simpa using a3
  · rcases ib i (by omega) hi with h | h
    · exact h
    · omega
end Go.Proofs.Ytnjopfdeapclhaa

namespace Go.Proofs.Ytnjopfdeapclhaa
open Go.RowKit
set_option linter.unusedVariables false

/-- What Settle finds of the book, whatever its items hold. -/
structure Sb (w : World) (B g n : Nat) (aL aW : Option Addr) (cL cW : Nat) (its : List Item) : Prop where
  box : KBox w g (.slice aL n cL) (.slice aW n cW)
  rl : RowS w B (.slice aL n cL) n (its.map Item.l)
  rw : RowS w B (.slice aW n cW) n (its.map Item.k)
  own : ∀ p ∈ its, Own w B p.l p.xs.length p.xs ∧ Own w B p.k p.xs.length p.xs ∧ Bys p.xs ∧ p.xs.length ≤ 100000
  apart : (its.map Item.l).Pairwise AP
  apk : ∀ p ∈ its, ∀ q ∈ its, AP p.l q.k
  len : n = its.length
theorem Bk.sb {w : World} {B g n : Nat} {its : List Item} (h : Bk w B g n its) : ∃ aL cL aW cW, Sb w B g n aL aW cL cW its := by
  obtain ⟨⟨aL, cL, aW, cW, h1, h2, h3, h4⟩, h5, h6⟩ := h
  rw [List.pairwise_append] at h6
  exact ⟨aL, cL, aW, cW, h1, h2, h3, h5, h6.1, fun p hp q hq => h6.2.2 _ (List.mem_map.2 ⟨p, hp, rfl⟩) _ (List.mem_map.2 ⟨q, hq, rfl⟩), by have := h2.1; simpa using this⟩
theorem Sb.kbox {w w' : World} {B g n : Nat} {aL aW : Option Addr} {cL cW : Nat} {its : List Item} (h : Sb w B g n aL aW cL cW its) (f : Fr w w' its) : KBox w' g (.slice aL n cL) (.slice aW n cW) := f.kbox (ys := Item.xs) h.box (fun p hp => (h.own p hp).1)
theorem Sb.row {w w' : World} {B g n : Nat} {aL aW : Option Addr} {cL cW : Nat} {its : List Item} (h : Sb w B g n aL aW cL cW its) (f : Fr w w' its) : RowS w' B (.slice aL n cL) n (its.map Item.l) := f.rows (ys := Item.xs) h.rl (fun p hp => (h.own p hp).1)
/-- The item of number t: where the row has it. -/
theorem Sb.item {w w' : World} {B g n t : Nat} {aL aW : Option Addr} {cL cW : Nat} {its : List Item} (h : Sb w B g n aL aW cL cW its) (f : Fr w w' its) (ht : t < n) : ∃ p gL al cl, its[t]? = some p ∧ p.l = .slice al p.xs.length cl ∧ p.xs.length ≤ 100000 ∧ aL = some ⟨gL, 0, none⟩ ∧ w'.cell? ⟨gL, t, none⟩ = some (.slice al p.xs.length cl) := by
  have hti : t < its.length := by have := h.len; omega
  obtain ⟨gL, rfl, c1⟩ := (h.row f).at ht
  have o := h.own its[t] (List.getElem_mem hti)
  obtain ⟨al, cl, e⟩ := own_form o.1.2
  refine ⟨its[t], gL, al, cl, by simp [hti], e, o.2.2.2, rfl, ?_⟩
  rw [c1]
  simp [hti, e]

/-- What stands at a round of the lengthening: t lists are longer. -/
structure Lg (w wr : World) (B t : Nat) (its : List Item) (vM : Value) (ms : List Value) : Prop where
  fr : Fr w wr its
  row : RowS wr w.heap.size vM t ms
  old : ∀ j p, its[j]? = some p → Rd wr p.l (List.replicate p.xs.length (mkOf j))
  rest : ∀ j p, t ≤ j → its[j]? = some p → Own wr B p.l p.xs.length (List.replicate p.xs.length (mkOf j))
  new : ∀ j p m, its[j]? = some p → ms[j]? = some m → Own wr B m (p.xs.length + 70) (List.replicate (p.xs.length + 70) (mkOf j)) ∧ Near w p.l m
theorem Lg.start {w wr : World} {B g n : Nat} {aL aW : Option Addr} {cL cW : Nat} {its : List Item} (h : Sb w B g n aL aW cL cW its) (f : Fr w wr its) (k : Now wr B its (fillTo its n)) : Lg w wr B 0 its (.slice none 0 0) [] := by
  have o : ∀ j p, its[j]? = some p → Own wr B p.l p.xs.length (List.replicate p.xs.length (mkOf j)) := fun j p hp => by
    have := k j p hp
    rw [fillTo_all h.len hp] at this
    exact this
  refine ⟨f, ⟨rfl, by simp, World.ownsRow_nil _ _ _ _⟩, fun j p hp => ?_, fun j p _ hp => o j p hp, fun j p m _ hm => by simp at hm⟩
  have := (h.own p (List.mem_of_getElem? hp)).2.2.2
  exact (o j p hp).rd (rep_bys _ _ (mkOf_lt j)) (by omega)
theorem Lg.step {w wr w2 w3 : World} {B g n t c' : Nat} {aL aW a' : Option Addr} {cL cW : Nat} {its : List Item} {vM vM' : Value} {ms : List Value} {p : Item} (hs : Sb w B g n aL aW cL cW its) (h : Lg w wr B t its vM ms) (hp : its[t]? = some p) (o2 : Own w2 B (.slice a' (p.xs.length + 70) c') (p.xs.length + 70) (List.replicate (p.xs.length + 70) (mkOf t))) (nr : Near wr p.l (.slice a' (p.xs.length + 70) c')) (kp : Keeps (mkOf t) wr w2) (g2 : wr.grownBy w2 p.l.ownBlock)
    (r3 : RowS w3 w.heap.size vM' (t + 1) (ms ++ [.slice a' (p.xs.length + 70) c'])) (g3 : w2.grownBy w3 vM.ownBlock) : Lg w w3 B (t + 1) its vM' (ms ++ [.slice a' (p.xs.length + 70) c']) := by
  have lt : ∀ q ∈ its, ∀ x, q.l.ownBlock = some x → x < w.heap.size := fun q hq x hx => ((hs.own q hq).1.2.lt x hx).2
  have pm := List.mem_of_getElem? hp
  have mlt : ∀ x, vM.ownBlock = some x → w.heap.size ≤ x := fun x hx => (h.row.2.2.lt x hx).1
  have R2 : RowS w2 w.heap.size vM t ms := h.row.far g2 (fun x hx hy => by have := lt p pm x hx; have := mlt x hy; omega)
  have far3 : ∀ q ∈ its, ∀ x, vM.ownBlock = some x → q.l.ownBlock ≠ some x := fun q hq x hx hy => by have := lt q hq x hy; have := mlt x hx; omega
  have lm : ms.length = t := h.row.1.symm
  refine ⟨(h.fr.grow g2 (fun x hx => .inr ⟨p, pm, hx⟩)).grow g3 (fun x hx => .inl (mlt x hx)), r3, fun j q hq => ?_, fun j q hj hq => ?_, fun j q m hq hm => ?_⟩
  · have qm := List.mem_of_getElem? hq
    by_cases e : j = t
    · subst e
      obtain rfl : p = q := by rw [hp] at hq; simpa using hq
      exact (kp.rd (h.old j p hp)).far g3 (far3 p pm)
    · exact ((h.old j q hq).far g2 (fun x hx hy => ap_ne hs.apart e hq hp x hy hx)).far g3 (far3 q qm)
  · have qm := List.mem_of_getElem? hq
    exact ((h.rest j q (by omega) hq).far g2 (fun x hx hy => ap_ne hs.apart (by omega : j ≠ t) hq hp x hy hx)).far g3 (far3 q qm)
  · have qm := List.mem_of_getElem? hq
    by_cases e : j < t
    · rw [List.getElem?_append_left (by omega)] at hm
      obtain ⟨o, k⟩ := h.new j q m hq hm
      have o4 := o.far g2 (fun x hx hy => by
        rcases k with k | k
        · rw [k] at hy
          exact ap_ne hs.apart (by omega : j ≠ t) hq hp x hy hx
        · have := k x hy
          have := lt p pm x hx
          omega)
      exact ⟨o4.far g3 (fun x hx => row_own R2 o4 hx), k⟩
    · obtain rfl : j = t := by
        have := (List.getElem?_eq_some_iff.1 hm).1
        simp at this
        omega
      obtain rfl : p = q := by rw [hp] at hq; simpa using hq
      rw [List.getElem?_append_right (by omega), lm] at hm
      simp at hm
      subst hm
      refine ⟨o2.far g3 (fun x hx => row_own R2 o2 hx), ?_⟩
      rcases nr with k | k
      · exact .inl k
      · exact .inr fun x hx => Nat.le_trans h.fr.size (k x hx)

theorem KBox.keepH {w w' : World} {g H : Nat} {vL vW : Value} (h : KBox w g vL vW) (k : Below H w w') (hg : g < H) : KBox w' g vL vW := by
  unfold KBox at *
  rw [k.block g hg]; exact h
theorem RowS.keepH {w w' : World} {B n H : Nat} {v : Value} {vs : List Value} (h : RowS w B v n vs) (k : Below H w w') (hv : ∀ x, v.ownBlock = some x → x < H) : RowS w' B v n vs := by
  refine ⟨h.1, h.2.1, h.2.2.1, ?_⟩
  rcases h.2.2.2 with h2 | ⟨g, cap, cur, h3, h4, h5, h6⟩
  · exact .inl h2
  · exact .inr ⟨g, cap, cur, h3, h4, by rw [k.block g (hv g (by rw [h3]; rfl))]; exact h5, h6⟩
theorem Rd.keepH {w w' : World} {H : Nat} {v : Value} {xs : List Nat} (h : Rd w v xs) (k : Below H w w') (hv : ∀ x, v.ownBlock = some x → x < H) : Rd w' v xs := by
  obtain ⟨h1, a, cap, rfl, h3, h4, h5, h6, h7⟩ := h
  refine ⟨h1, a, cap, rfl, h3, h4, h5, h6, ?_⟩
  rcases h7 with h7 | ⟨b, off, rfl, hc⟩
  · exact .inl h7
  · refine .inr ⟨b, off, rfl, fun i hi => ?_⟩
    rw [k.cell (p := ⟨b, off + i, none⟩) (hv b rfl)]
    exact hc i hi
theorem Sb.later {w w' : World} {B g n : Nat} {aL aW : Option Addr} {cL cW : Nat} {its : List Item} (h : Sb w B g n aL aW cL cW its) (hb : Below w.heap.size w w') : Sb w' B g n aL aW cL cW its :=
  ⟨h.box.later hb, h.rl.later hb, h.rw.later hb, fun p hp => ⟨(h.own p hp).1.later hb, (h.own p hp).2.1.later hb, (h.own p hp).2.2⟩, h.apart, h.apk, h.len⟩
theorem Lg.bs {w0 w wr wx : World} {B g n t : Nat} {aL aW : Option Addr} {cL cW : Nat} {its : List Item} {vM : Value} {ms : List Value} (h0 : Sb w0 B g n aL aW cL cW its) (hs : Sb w B g n aL aW cL cW its) (h : Lg w wr B t its vM ms) (k : Below w0.heap.size wr wx) : Bs wx B g n its := by
  refine ⟨⟨aL, cL, aW, cW, (hs.kbox h.fr).keepH k ((Array.getElem?_eq_some_iff.1 h0.box).1), (hs.row h.fr).keepH k (fun x hx => (h0.rl.2.2.lt x hx).2), ?_⟩, fun p hp => ⟨?_, (hs.own p hp).2.2⟩, fun j p hp => ?_⟩
  · exact (h.fr.rows (ys := Item.xs) hs.rw (fun p hp => (hs.own p hp).1)).keepH k (fun x hx => (h0.rw.2.2.lt x hx).2)
  · exact (h.fr.own (hs.own p hp).2.1 (fun q hq => hs.apk q hq p hp)).same_block (fun x hx => k.block x ((h0.own p hp).2.1.2.lt x hx).2)
  · exact (h.old j p hp).keepH k (fun x hx => ((h0.own p (List.mem_of_getElem? hp)).1.2.lt x hx).2)

end Go.Proofs.Ytnjopfdeapclhaa
